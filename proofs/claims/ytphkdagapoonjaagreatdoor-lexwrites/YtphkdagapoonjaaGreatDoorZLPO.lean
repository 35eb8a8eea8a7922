/- strconv.FormatInt at base 16, of a control; lex.Quote. -/
import Derived.Test.YtphkdagapoonjaaGreatDoorZLSC
import Derived.Laws.Bits64b
import Derived.OwnWalk
import Derived.Deep.WholeRow
import Derived.Maps.AppendAt
import Derived.RegionTactic
import Derived.Laws.OwnMore
import Derived.Laws.IdiomStrings
import Derived.Test.YtphkdagapoonjaaGreatDoorZLHA
import Derived.Test.YtphkdagapoonjaaGreatDoorZLXH
namespace Go.Proofs.YtphkdagapoonjaaGreatDoor.Lx
open Go.RowKit
open Go.Proofs.YtphkdagapoonjaaGreatDoor.F (bn bn_length bn_append bn_inj bn_get byte_bd hid bn_extract isEmpty_false isEmpty_true str_eq same_eq)
set_option linter.unusedVariables false

set_option maxRecDepth 100000 in
theorem zeros64 (w : World) (hT : w.cell? ⟨5, 15, none⟩ = some (.int .u8 4)) : Calls Tryz.prog 96 #[.int .u64 16] w fun e W' => e = .returned (.int .i64 4) ∧ W' = w := by
  have e1 : IntKind.u64.wrap (-16) = 18446744073709551600 := by decide
  have e2 : bits BinOp.and IntKind.u64 16 18446744073709551600 = 16 := by decide
  have e3 : IntKind.u64.wrap 4573923408821661840 = 4573923408821661840 := by decide
  go_enter Tryz.func96, Tryz.ntmps96
  go_wp2
  go_ret
  exact ⟨rfl, rfl⟩
set_option maxRecDepth 100000 in
theorem zeros_any (w : World) (hT : w.cell? ⟨5, 15, none⟩ = some (.int .u8 4)) : Calls Tryz.prog 84 #[.int .u64 16] w fun e W' => e = .returned (.int .i64 4) ∧ W' = w := by
  go_enter Tryz.func84, Tryz.ntmps84
  go_wp2_with fail
  refine (zeros64 w hT).mono ?_
  rintro e w1 ⟨rfl, rfl⟩
  go_wp2
  go_ret
  exact ⟨rfl, rfl⟩
set_option maxRecDepth 100000 in
theorem power_any (w : World) : Calls Tryz.prog 83 #[.int .i64 16] w fun e W' => e = .returned (.bool true) ∧ W' = w := by
  go_enter Tryz.func83, Tryz.ntmps83
  go_wp2
  go_ret
  exact ⟨rfl, rfl⟩
theorem wpList_alloc_great {P : Program} {ops : Array Oper} {Q : Exit → Act → World → Prop} {a : Act} {w : World} {rest : List Oper} {o : Oper} (hg : o.guard = none) (ty : TypeId) (ho : o.op = .alloc ty) (z : Array Value)
    (hz : ∀ w, (zeroValue ty).run P w = .ok (.agg z) w)
    (h : wpList P ops Q rest (a.put o.dst (.pointer (some ⟨w.heap.size, 0, none⟩))) (w.alloc (.cells z ty))) : wpList P ops Q (o :: rest) a w := by
  refine wpList_plain hg fun K hK => ?_
  unfold Oper.wp execOp
  simp only [ho]
  simp [Instr.alloc, hz, go_sem]
  exact hK _ _ h
def hexd (n : Nat) : Int := if n < 10 then 48 + n else 87 + n
def hxf : Nat → Nat → List Int
  | 0, n => [hexd n]
  | f + 1, n => if n < 16 then [hexd n] else hxf f (n / 16) ++ [hexd (n % 16)]
/-- The digits of a control's number. -/
def hx2 (u : Nat) : List Int := if u < 16 then [hd u] else [hd ((u / 16 : Nat) : Int), hd ((u % 16 : Nat) : Int)]
theorem hexd_hd (n : Nat) : hexd n = hd (n : Int) := by unfold hexd hd; split <;> split <;> omega
theorem hxf_two {n : Nat} (h : n < 128) : hxf 8 n = hx2 n := by
  unfold hx2
  by_cases h1 : n < 16
  · rw [hxf, if_pos h1, if_pos h1, hexd_hd]
  · rw [hxf, if_neg h1, hxf, if_pos (by omega), if_neg h1, hexd_hd, hexd_hd]; rfl
theorem hx2_bytes {n : Nat} (h : n < 128) : ∀ x ∈ hx2 n, 0 ≤ x ∧ x ≤ 255 := by
  intro x hx
  unfold hx2 at hx
  split at hx
  · have : x = hd n := by simpa using hx
    subst this; unfold hd; split <;> omega
  · have h1 := List.mem_cons.1 hx
    rcases h1 with rfl | h1
    · unfold hd; split <;> omega
    · have : x = hd ((n % 16 : Nat) : Int) := by simpa using h1
      subst this; unfold hd; split <;> omega
theorem digits_at : ∀ (d : Nat) (h : d < 16), (((⟨#[48, 49, 50, 51, 52, 53, 54, 55, 56, 57, 97, 98, 99, 100, 101, 102, 103, 104, 105, 106, 107, 108, 109, 110, 111, 112, 113, 114, 115, 116, 117, 118, 119, 120, 121, 122]⟩ : ByteArray)[d]'(Nat.lt_of_lt_of_le h (by decide))).toNat : Int) = hexd d := by
  decide
theorem drop_set (ys : List Value) (I : Nat) (x : Int) (ds : List Int) (h : I < ys.length) (hd : ys.drop (I + 1) = ds.map (Value.int .u8)) : (ys.set I (.int .u8 x)).drop I = (x :: ds).map (Value.int .u8) := by
  rw [List.drop_eq_getElem_cons (by simpa using h), List.getElem_set_self, List.drop_set_of_lt (by omega), hd]; rfl
def szU (k m : Nat) : Prop := (k = 0 ∧ m ≤ 65535) ∨ (k = 1 ∧ m ≤ 4095) ∨ (k = 2 ∧ m ≤ 255) ∨ (k = 3 ∧ m ≤ 15)
theorem szU_lt {k m : Nat} (h : szU k m) : m ≤ 65535 ∧ k ≤ 3 := by unfold szU at h; omega
theorem szU_step {k m : Nat} (h : szU k m) (hm : 16 ≤ m) : szU (k + 1) (m / 16) ∧ k ≤ 2 := by
  rcases h with ⟨rfl, h⟩ | ⟨rfl, h⟩ | ⟨rfl, h⟩ | ⟨rfl, h⟩
  · exact ⟨.inr (.inl ⟨rfl, by omega⟩), by omega⟩
  · exact ⟨.inr (.inr (.inl ⟨rfl, by omega⟩)), by omega⟩
  · exact ⟨.inr (.inr (.inr ⟨rfl, by omega⟩)), by omega⟩
  · omega
theorem addr_plus (g i j : Nat) : (⟨g, i, none⟩ : Addr).add j = ⟨g, i + j, none⟩ := by unfold Addr.add; split <;> simp_all
theorem slice65 (g I : Nat) (hI : I < 65) (W : World) : (Instr.sliceAt 117 (.pointer (some ⟨g, 0, none⟩)) (some (.int .i64 (I : Int))) none none).run Tryz.prog W = .ok (.slice (some ⟨g, I, none⟩) (65 - I) (65 - I)) W := by
  have hl : Tryz.prog.arrayLen 117 = 65 := by kernel_rfl
  rw [run_sliceAt_array_l W 117 ⟨g, 0, none⟩ (by kernel_rfl) .i64 (I : Int) (by omega) (by rw [hl]; omega), hl]
  have hs : (sizeOf (Tryz.prog.elem 117)).run Tryz.prog W = .ok 1 W := by kernel_rfl
  rw [hs]
  simp only [Result.andThen, slicedAt, Int.toNat_natCast, Nat.mul_one]
  rw [if_neg (by omega), addr_plus, Nat.zero_add]
theorem bytes_back (ns : List Int) (h : ∀ x ∈ ns, 0 ≤ x ∧ x ≤ 255) : (ns.map fun n => UInt8.ofNat n.toNat).map (fun c => (c.toNat : Int)) = ns := by
  rw [List.map_map]
  conv => rhs; rw [← List.map_id ns]
  apply List.map_congr_left
  intro x hx
  have := h x hx
  simp; omega
/-- Bytes that lie somewhere, as a text. -/
theorem conv_at (W : World) (g I n c : Nat) (ns : List Int) (hn : ns.length = n) (hb : ∀ x ∈ ns, 0 ≤ x ∧ x ≤ 255) (hc : ∀ j, j < n → W.cell? ⟨g, I + j, none⟩ = some (.int .u8 (ns[j]?.getD 0))) : ∃ t : ByteArray, (convert 49 9 (.slice (some ⟨g, I, none⟩) n c)).run Tryz.prog W = .ok (.string t) W ∧ bn t = ns := by
  subst hn
  refine ⟨⟨(ns.map fun n => UInt8.ofNat n.toNat).toArray⟩, ?_, ?_⟩
  · have := run_convert_bytes_back (P := Tryz.prog) W 49 9 5 ⟨g, I, none⟩ c (ns.map fun n => UInt8.ofNat n.toNat) Tryz.underlying49 Tryz.underlying5 Tryz.underlying9 (by
      intro j hj
      have hj' : j < ns.length := by simpa using hj
      rw [addr_plus, hc j hj', List.getElem?_eq_getElem hj']
      have hbj := hb ns[j] (List.getElem_mem hj')
      simp only [Option.getD_some, List.getElem_map, UInt8.toNat_ofNat']
      congr 2
      omega)
    rw [List.length_map] at this
    exact this
  · unfold bn
    simp only
    exact bytes_back ns hb
set_option maxRecDepth 100000 in
set_option maxHeartbeats 1600000 in
theorem bits_any (u : Nat) (hu : u < 128) (w : World) (hT : w.cell? ⟨5, 15, none⟩ = some (.int .u8 4)) :
    Calls Tryz.prog 62 #[.slice none 0 0, .int .u64 u, .int .i64 16, .bool false, .bool false] w fun e W' => (∃ t, e = .returned (.tuple #[.slice none 0 0, .string t]) ∧ bn t = hx2 u) ∧ Below w.heap.size w W' := by
  have HHX := hid (hxf_two hu)
  have HBY := hid (hx2_bytes hu)
  obtain ⟨z, hzv, hzl⟩ : ∃ z : Array Value, (∀ w, (zeroValue 117).run Tryz.prog w = .ok (.agg z) w) ∧ z.toList = List.replicate 65 (.int .u8 0) := ⟨(List.replicate 65 (.int .u8 0)).toArray, (zero_of_info (P := Tryz.prog) (t := 117) (n := 65) (by kernel_rfl)).1, rfl⟩
  go_enter Tryz.func62, Tryz.ntmps62
  go_wp2_with ((refine wpList_alloc_great rfl 117 rfl z hzv ?_))
  refine (power_any _).mono ?_
  rintro e w1 ⟨rfl, rfl⟩
  go_wp2_with fail
  refine (zeros_any _ (keeps ((Below.refl _ w).alloc (Nat.le_refl _) _) hT)).mono ?_
  rintro e w1 ⟨rfl, rfl⟩
  go_wp2_with fail
  have hzs : z.size = 65 := by rw [← Array.length_toList, hzl]; simp
  have hz : (w.alloc (.cells z 117)).ownsRow w.heap.size 117 1 (.slice (some ⟨w.heap.size, 0, none⟩) 65 65) 65 (List.replicate 65 (.int .u8 0)) :=
    ⟨by simp, .inr ⟨w.heap.size, 65, z, rfl, Nat.le_refl _, heap_alloc_new w _, Nat.le_refl _, by decide, hzs, by rw [hzl]; rfl⟩⟩
  go_loopw [1, 13] (fun a i wr => ∃ (k I m : Nat) (ds : List Int) (ys : List Value), a = .int .u64 (m : Int) ∧ i = .int .i64 (I : Int) ∧ I + k = 65 ∧ szU k m ∧ wr.ownsRow w.heap.size 117 1 (.slice (some ⟨w.heap.size, 0, none⟩) 65 65) 65 ys ∧ Hid (ys.drop I = ds.map (Value.int .u8)) ∧ Hid (hxf 8 u = hxf (8 - k) m ++ ds) ∧ Below w.heap.size w wr)
    (fun a _ _ => (intOf a).toNat)
  case atStart => exact ⟨0, 65, u, [], List.replicate 65 (.int .u8 0), rfl, rfl, rfl, .inl ⟨rfl, by omega⟩, hz, by show _ = _; rw [List.drop_eq_nil_of_le (by simp)]; rfl, by show _ = _; simp, (Below.refl _ w).alloc (Nat.le_refl _) _⟩
  case round =>
    obtain ⟨k, I, m, ds, ys, rfl, rfl, hIk, hsz, hr, HD, HH, hB⟩ := hrel
    have hm := szU_lt hsz
    have HI := hid hIk
    have hI1 : 60 ≤ I := by omega
    have hI2 : I ≤ 65 := by omega
    clear hIk hz
    by_cases h16 : 16 ≤ m
    · have hand : bits BinOp.and IntKind.u64 (m : Int) 15 = ((m % 16 : Nat) : Int) := by
        have := u64_and_nat m 15 (by omega) (by omega)
        rw [show m &&& 15 = m % 16 from Nat.and_two_pow_sub_one_eq_mod m 4] at this
        exact this
      obtain ⟨I', rfl⟩ : ∃ I', I = I' + 1 := ⟨I - 1, by omega⟩
      have h16' : (16 : Int) ≤ (m : Int) := by omega
      obtain ⟨y, hy⟩ : ∃ y, wr.cell? ⟨w.heap.size, I', none⟩ = some y := ⟨_, by rw [hr.cellAt I' (by omega), List.getElem?_eq_getElem (by rw [hr.1]; omega)]⟩
      have hfz := hr.frozenAt I'
      have b1 : ((m % 16 : Nat) : Int) < 36 := by omega
      have b2 : (I' : Int) < 65 := by omega
      go_wp2_with fail
      go_roundw
      case rel =>
        have e := digits_at (m % 16) (by omega)
        rw [e]
        have hst := hr.stored I' (.int .u8 (hexd (m % 16)))
        have hsz2 := szU_step hsz h16
        refine ⟨k + 1, I', m / 16, hexd (m % 16) :: ds, ys.set I' (.int .u8 (hexd (m % 16))), by rw [Int.natCast_ediv]; rfl, rfl, by have := HI.out; omega, hsz2.1, hst.1, ?_, ?_, hB.setCell (p := ⟨w.heap.size, I', none⟩) (Nat.le_refl _) _⟩
        · show _ = _
          exact drop_set ys I' _ ds (by rw [hr.1]; omega) HD.out
        · show _ = _
          rw [HH.out, show 8 - k = (8 - (k + 1)) + 1 by omega, hxf, if_neg (by omega), List.append_assoc]; rfl
      case measure => simp [intOf]; omega
    · obtain ⟨I', rfl⟩ : ∃ I', I = I' + 1 := ⟨I - 1, by omega⟩
      have h16' : ¬ (16 : Int) ≤ (m : Int) := by omega
      obtain ⟨y, hy⟩ : ∃ y, wr.cell? ⟨w.heap.size, I', none⟩ = some y := ⟨_, by rw [hr.cellAt I' (by omega), List.getElem?_eq_getElem (by rw [hr.1]; omega)]⟩
      have hfz := hr.frozenAt I'
      have b1 : (m : Int) < 36 := by omega
      have b2 : (I' : Int) < 65 := by omega
      have hst := (hr.stored I' (.int .u8 (hexd m))).1
      have hb3 : Below w.heap.size w (wr.setCell ⟨w.heap.size, I', none⟩ (.int .u8 (hexd m))) := hB.setCell (p := ⟨w.heap.size, I', none⟩) (Nat.le_refl _) _
      have hdrop : (ys.set I' (.int .u8 (hexd m))).drop I' = (hxf 8 u).map (Value.int .u8) := by
        rw [drop_set ys I' _ ds (by rw [hr.1]; omega) HD.out, HH.out]
        have : hxf (8 - k) m = [hexd m] := by
          cases h : 8 - k with
          | zero => rfl
          | succ f => rw [hxf, if_pos (by omega)]
        rw [this]; rfl
      rw [HHX.out] at hdrop
      have hlen : (hx2 u).length = 65 - I' := by
        have := congrArg List.length hdrop
        rw [List.length_drop, List.length_set, hr.1, List.length_map] at this
        omega
      have hcell : ∀ j, j < 65 - I' → (wr.setCell ⟨w.heap.size, I', none⟩ (.int .u8 (hexd m))).cell? ⟨w.heap.size, I' + j, none⟩ = some (.int .u8 ((hx2 u)[j]?.getD 0)) := fun j hj => by
        rw [hst.cellAt (I' + j) (by omega)]
        have h1 := congrArg (·[j]?) hdrop
        simp only [List.getElem?_drop, List.getElem?_map] at h1
        rw [h1, List.getElem?_eq_getElem (by omega)]; rfl
      obtain ⟨t, hcv, htb⟩ := conv_at _ w.heap.size I' (65 - I') (65 - I') (hx2 u) hlen HBY.out hcell
      have HTB := hid htb
      have hdg := digits_at m (by omega)
      have hsl := slice65 w.heap.size I' (by omega)
      obtain ⟨L, hL⟩ : ∃ L, L = 65 - I' := ⟨_, rfl⟩
      rw [← hL] at hsl hcv
      have hL9 : L ≤ 65 := by omega
      have HB3 := hid hb3
      clear hL hdrop hlen hcell htb hst hb3
      go_wp2
      go_ret2
      exact ⟨⟨t, rfl, HTB.out⟩, HB3.out⟩
set_option maxRecDepth 100000 in
set_option maxHeartbeats 1600000 in
theorem formatI_any (u : Nat) (hu : u < 128) (w : World) (hT : w.cell? ⟨5, 15, none⟩ = some (.int .u8 4)) : Calls Tryz.prog 47 #[.int .i64 u, .int .i64 16] w fun e W' => (∃ t, e = .returned (.string t) ∧ bn t = hx2 u) ∧ Below w.heap.size w W' := by
  have hw : IntKind.u64.wrap (u : Int) = (u : Int) := by rw [IntKind.wrap_u64]; omega
  have HB := hid (bits_any u hu w hT)
  go_enter Tryz.func47, Tryz.ntmps47
  go_wp2_with fail
  refine HB.out.mono ?_
  rintro e w1 ⟨⟨t, rfl, ht⟩, hB⟩
  have HT := hid ht
  clear ht
  go_wp2
  go_ret
  exact ⟨⟨t, rfl, HT.out⟩, hB⟩
set_option maxRecDepth 100000 in
set_option maxHeartbeats 1600000 in
theorem format_any (u : Nat) (hu : u < 128) (w : World) (G : Gl w) : Calls Tryz.prog 30 #[.int .i64 u, .int .i64 16] w fun e W' => (∃ t, e = .returned (.string t) ∧ bn t = hx2 u) ∧ Below w.heap.size w W' := by
  have HB := hid (formatI_any u hu w G.brui)
  clear G
  go_enter Tryz.func30, Tryz.ntmps30
  go_wp2_with fail
  refine HB.out.mono ?_
  rintro e w1 ⟨⟨t, rfl, ht⟩, hB⟩
  have HT := hid ht
  clear ht
  go_wp2
  go_ret
  exact ⟨⟨t, rfl, HT.out⟩, hB⟩
end Go.Proofs.YtphkdagapoonjaaGreatDoor.Lx
namespace Go.Proofs.YtphkdagapoonjaaGreatDoor.Lx
open Go.RowKit
open Go.Proofs.YtphkdagapoonjaaGreatDoor.F (bn bn_length bn_append bn_inj bn_get byte_bd hid bn_extract isEmpty_false isEmpty_true str_eq same_eq)
open Go.Proofs.YtphkdagapoonjaaGreatDoor.U (nx enc encs scal val Bytes)
set_option linter.unusedVariables false

/-- A rune of a valid text. -/
theorem vr_step (s : ByteArray) (p : Nat) (hp : p < s.size) (hv : val ((bn s).drop p) = true) :
    scal ((Utf8.decode s p).1 : Int) = true ∧ enc ((Utf8.decode s p).1 : Int) = ((bn s).drop p).take (Utf8.decode s p).2 ∧ 1 ≤ (Utf8.decode s p).2 ∧ p + (Utf8.decode s p).2 ≤ s.size ∧ val ((bn s).drop (p + (Utf8.decode s p).2)) = true := by
  have hd := dec_nx s p hp
  have hl : ((bn s).drop p).length = s.size - p := by rw [List.length_drop, bn_length]
  have hne : (bn s).drop p ≠ [] := by intro e; rw [e] at hl; simp at hl; omega
  have hB : Bytes ((bn s).drop p) := fun b hb => U.bn_bytes s b (List.mem_of_mem_drop hb)
  have hn := U.nx_n _ hne
  rw [hl] at hn
  rw [U.val_cons _ hne hB, Bool.and_eq_true] at hv
  have hw := hv.1
  rw [if_pos hw] at hd
  rw [if_pos hw] at hd
  have hsp := (rn_step s p hp)
  have he : scal ((Utf8.decode s p).1 : Int) = true := by
    rcases hsp with ⟨h1, _⟩ | ⟨_, h1, _⟩
    · rw [scal_iff]; omega
    · exact h1
  refine ⟨he, ?_, by rw [hd.2]; exact hn.1, by rw [hd.2]; exact le_aux hn.2 hp, by rw [hd.2, ← List.drop_drop]; exact hv.2⟩
  rw [hd.1, hd.2]
  exact (U.nx_whole _ hne hB hw).2.1
theorem Bl.iter {B b : Nat} {l : List Int} {w : World} (h : Bl B b l w) {k : Nat} {s : ByteArray} {pos : Nat} (hk : w.heap[k]? = some (.stringIter s pos)) (pos' : Nat) : Bl B b l (w.iterAt k s pos') := ⟨Lib.IsBuilderF.iterAt h.1 hk pos', h.2⟩
theorem ok_iter {b k : Nat} {w w' : World} {s : ByteArray} {pos : Nat} (h : OK b w w') (hk : w.heap[k]? = some (.stringIter s pos)) (hne : k ≠ b) : w'.heap[k]? = some (.stringIter s pos) := h k _ hk (fun e => hne (Option.some.inj e)) (fun c fz e => by cases e)
/-- How a rune stands in quotes. -/
theorem qb_rune (s : ByteArray) (p : Nat) (hp : p < s.size) (hv : val ((bn s).drop p) = true) :
    (((bn s).drop p).take (Utf8.decode s p).2).flatMap qb =
      if ((Utf8.decode s p).1 : Int) = 34 ∨ ((Utf8.decode s p).1 : Int) = 92 then 92 :: enc ((Utf8.decode s p).1 : Int)
      else if ((Utf8.decode s p).1 : Int) < 32 ∨ ((Utf8.decode s p).1 : Int) = 127 then [92, 117, 123] ++ hx2 (Utf8.decode s p).1 ++ [125]
      else enc ((Utf8.decode s p).1 : Int) := by
  obtain ⟨h1, h2, h3, h4, h5⟩ := vr_step s p hp hv
  have hsp := rn_step s p hp
  rw [← h2]
  obtain ⟨R, hR⟩ : ∃ R, (Utf8.decode s p).1 = R := ⟨_, rfl⟩
  rw [hR] at h1 hsp ⊢
  by_cases h128 : R < 128
  · have e : enc (R : Int) = [(R : Int)] := by unfold enc; rw [if_pos (by omega)]
    rw [e]
    simp only [List.flatMap_cons, List.flatMap_nil, List.append_nil]
    unfold qb
    by_cases a1 : (R : Int) = 34 ∨ (R : Int) = 92
    · rw [if_pos a1, if_pos a1]
    rw [if_neg a1, if_neg a1]
    unfold hx2
    by_cases a2 : (R : Int) < 16
    · rw [if_pos a2, if_pos (by omega), if_pos (by omega)]; rfl
    rw [if_neg a2]
    by_cases a3 : (R : Int) < 32 ∨ (R : Int) = 127
    · rw [if_pos a3, if_pos a3, if_neg (by omega)]
      have e1 : ((R / 16 : Nat) : Int) = (R : Int) / 16 := by omega
      have e2 : ((R % 16 : Nat) : Int) = (R : Int) % 16 := by omega
      rw [e1, e2]; rfl
    · rw [if_neg a3, if_neg a3]
  · rw [flat_high (enc_high (by omega)), if_neg (by omega), if_neg (by omega)]
def PqR (l : List Int) (e : Ending) : Prop := ∃ t : ByteArray, bn t = (quote l).1 ∧ e = .returned (.tuple #[.string t, .int .i64 (quote l).2])
theorem PqR.utf {l : List Int} (h : val l = false) : PqR l (.returned (.tuple #[.string ⟨#[]⟩, .int .i64 152])) := ⟨⟨#[]⟩, by unfold quote; rw [if_pos h]; rfl, by unfold quote; rw [if_pos h]; rfl⟩
theorem PqR.long {l : List Int} (h : val l = true) (h2 : 65536 < l.length) : PqR l (.returned (.tuple #[.string ⟨#[]⟩, .int .i64 4])) := ⟨⟨#[]⟩, by unfold quote; rw [if_neg (by simp [h]), if_pos h2]; rfl, by unfold quote; rw [if_neg (by simp [h]), if_pos h2]; rfl⟩
theorem PqR.ok {l : List Int} (h : val l = true) (h2 : ¬ 65536 < l.length) {t : ByteArray} (ht : bn t = qt l) : PqR l (.returned (.tuple #[.string t, .int .i64 0])) := ⟨t, by unfold quote; rw [if_neg (by simp [h]), if_neg h2]; exact ht, by unfold quote; rw [if_neg (by simp [h]), if_neg h2]; rfl⟩
set_option maxRecDepth 100000 in
set_option maxHeartbeats 8000000 in
theorem quote_any (s : ByteArray) (hs : s.size ≤ 1000000) (w : World) (G : Gl w) : Calls Tryz.prog 12 #[.string s] w fun e W' => PqR (bn s) e ∧ Below w.heap.size w W' := by
  have HV := hid (valid_any s (by omega) w G)
  have hbl := bn_length s
  cases hv : val (bn s) with
  | false =>
    have HF := hid (PqR.utf hv)
    rw [hv] at HV
    clear G hbl hv
    go_enter Tryz.func12, Tryz.ntmps12
    go_wp2_with fail
    refine HV.out.mono ?_
    rintro e w2 ⟨rfl, B⟩
    go_wp2
    go_ret2
    exact ⟨HF.out, B⟩
  | true =>
    rw [hv] at HV
    by_cases hl : 65536 < s.size
    · have HF := hid (PqR.long hv (by rw [hbl]; exact hl))
      clear G hbl hv
      go_enter Tryz.func12, Tryz.ntmps12
      go_wp2_with fail
      refine HV.out.mono ?_
      rintro e w2 ⟨rfl, B⟩
      go_wp2
      go_ret2
      exact ⟨HF.out, B⟩
    · have HF := hid (fun t ht => PqR.ok (t := t) hv (by rw [hbl]; exact hl) ht)
      have HVV := hid hv
      have HG := hid (fun W (h : Below w.heap.size w W) => G.below h)
      clear G hbl hv
      go_enter Tryz.func12, Tryz.ntmps12
      go_wp2_with fail
      refine HV.out.mono ?_
      rintro e w2 ⟨rfl, B⟩
      have HB2 := hid B
      have HN := hid (Bl.new w2)
      have HB3 := hid (B.alloc B.size (.cells #[.pointer none, .slice none 0 0] 51))
      have HW0 := hid (bl_byte w2.heap.size w2.heap.size [] 34 (by omega) (by omega) _ HN.out (by simp) (by simp))
      clear B HV
      go_wp2_with fail
      refine HW0.out.mono ?_
      rintro e w3 ⟨rfl, h1, h2, h3⟩
      have HBl0 := hid h1
      have HB4 : Hid (Below w.heap.size w w3) := hid (HB3.out.trans (h2.mono HB2.out.size))
      have hsz3 : w2.heap.size < w3.heap.size := by have := h2.size; simp at this; omega
      clear h1 h2 h3 HW0 HN HB3
      go_wp2_with fail
      go_loopg [] s.size (fun gf wx => ∃ p : Nat, wx.heap[w3.heap.size]? = some (.stringIter s p) ∧ Hid (Below w.heap.size w wx) ∧ Hid (Bl w2.heap.size w2.heap.size (34 :: ((bn s).take p).flatMap qb) wx) ∧ Hid (val ((bn s).drop p) = true) ∧ p ≤ s.size ∧ s.size ≤ p + gf)
      case atStart => exact ⟨0, World.iter_heap w3 s 0, HB4.out.alloc HB4.out.size _, HBl0.out.alloc _, HVV.out, by omega, by omega⟩
      case round =>
        obtain ⟨p, hit, HB, HBL, HVP, hp, hfu⟩ := hrel
        have zw := HB.out.size
        by_cases hps : p < s.size
        · obtain ⟨g', rfl⟩ : ∃ g', gk = g' + 1 := ⟨gk - 1, by omega⟩
          have hnx : ∀ ty, (Instr.next (.pointer (some ⟨w3.heap.size, 0, none⟩)) true ty).run Tryz.prog wr = _ := fun ty => Lib.run_next_any_at wr w3.heap.size s p ty hit hps
          have hst := vr_step s p hps HVP.out
          have hqr := qb_rune s p hps HVP.out
          have htk : ((bn s).take (p + (Utf8.decode s p).2)).flatMap qb = ((bn s).take p).flatMap qb ++ (((bn s).drop p).take (Utf8.decode s p).2).flatMap qb := by rw [List.take_add, List.flatMap_append]
          have hTl : (34 :: ((bn s).take p).flatMap qb).length ≤ 1000000 := by
            have h1 := flat_len ((bn s).take p)
            rw [List.length_take, bn_length] at h1
            rw [List.length_cons]
            omega
          rw [hqr] at htk
          clear hqr
          obtain ⟨R, hR⟩ : ∃ R, (Utf8.decode s p).1 = R := ⟨_, rfl⟩
          obtain ⟨K, hK⟩ : ∃ K, (Utf8.decode s p).2 = K := ⟨_, rfl⟩
          rw [hR, hK] at hnx hst htk
          clear hR hK
          obtain ⟨hsc, -, hK1, hpK, hvn⟩ := hst
          obtain ⟨T, hT⟩ : ∃ T, 34 :: ((bn s).take p).flatMap qb = T := ⟨_, rfl⟩
          rw [hT] at HBL hTl
          have HTK : Hid (34 :: ((bn s).take (p + K)).flatMap qb = T ++ (if (R : Int) = 34 ∨ (R : Int) = 92 then 92 :: enc (R : Int) else if (R : Int) < 32 ∨ (R : Int) = 127 then [92, 117, 123] ++ hx2 R ++ [125] else enc (R : Int))) := by
            show _ = _
            rw [htk, ← hT]; rfl
          have HSC := hid hsc
          have HVN := hid hvn
          have hit2 := Lib.iterAt_heap wr w3.heap.size s p (p + K) hit
          have HB2' := hid (Lib.below_iterAt HB.out (k := w3.heap.size) HB4.out.size s (p + K))
          have HBL2 := hid (HBL.out.iter hit (p + K))
          obtain ⟨W, hWd⟩ : ∃ W, wr.iterAt w3.heap.size s (p + K) = W := ⟨_, rfl⟩
          rw [hWd] at hnx hit2 HB2' HBL2
          have hWs : w2.heap.size ≤ W.heap.size := by have := (Array.getElem?_eq_some_iff.1 hit2).1; omega
          have hr0 := (scal_iff.1 hsc)
          have hw2 := HB2.out.size
          clear HB HBL hWd hit htk hT hsc hvn
          have hR0 : (R : Int) ≤ 1114111 := hr0.2.1
          by_cases hqq : (R : Int) = 34 ∨ (R : Int) = 92
          · rw [if_pos hqq] at HTK
            have HWB := hid (bl_byte w2.heap.size w2.heap.size T 92 (by omega) (by omega) W HBL2.out (by omega) hWs)
            have hqb : ((R : Int) == 34) = true ∨ ((R : Int) == 34) = false ∧ ((R : Int) == 92) = true := by
              rcases hqq with h | h
              · exact .inl (by simpa using h)
              · exact .inr ⟨by simp; omega, by simpa using h⟩
            clear hqq hr0
            rcases hqb with qa | ⟨qa, qb'⟩
            all_goals
              go_wp2_with fail
              refine HWB.out.mono ?_
              rintro e w5 ⟨rfl, h1, h2, h3⟩
              have hit5 := ok_iter h3 hit2 (by omega)
              have HB5 := hid (HB2'.out.trans (h2.mono hw2))
              have hW5 : w2.heap.size ≤ w5.heap.size := by have := h2.size; omega
              have HWR := hid (bl_rune w2.heap.size w2.heap.size (T ++ [92]) (R : Int) HSC.out w5 h1 (by rw [List.length_append]; simp; omega) hW5)
              clear h1 h2 h3 HWB
              go_wp2_with fail
              refine HWR.out.mono ?_
              rintro e w6 ⟨⟨v, rfl⟩, h1, h2, h3⟩
              have hit6 := ok_iter h3 hit5 (by omega)
              have HB6 := hid (HB5.out.trans (h2.mono hw2))
              have HBL6 : Hid (Bl w2.heap.size w2.heap.size (34 :: ((bn s).take (p + K)).flatMap qb) w6) := by rw [HTK.out]; rw [List.append_assoc] at h1; exact h1
              clear h1 h2 h3 HWR
              go_wp2
              go_roundg g'
              case measure => omega
              case rel => exact ⟨p + K, hit6, HB6.out, HBL6.out, HVN.out, hpK, by omega⟩
          · rw [if_neg hqq] at HTK
            have qa : ((R : Int) == 34) = false := by simp; omega
            have qb' : ((R : Int) == 92) = false := by simp; omega
            have HC := hid (fun W => ctl_any (R : Int) W)
            by_cases hcc : (R : Int) < 32 ∨ (R : Int) = 127
            · rw [if_pos hcc] at HTK
              rw [decide_eq_true hcc] at HC
              have HFI := hid (format_any R (by omega) W (HG.out W HB2'.out))
              have hwr : IntKind.i64.wrap (R : Int) = (R : Int) := by rw [IntKind.wrap_i64]; omega
              clear hqq hcc hr0
              go_wp2_with (go_at_call 29; refine (HC.out _).mono ?_; rintro e w5 ⟨rfl, hw5⟩; obtain rfl := hw5.symm)
              refine HFI.out.mono ?_
              rintro e w5 ⟨⟨t, rfl, ht⟩, B5⟩
              have htl : t.size ≤ 2 := by rw [← bn_length, ht]; unfold hx2; split <;> simp
              have hit5 : w5.heap[w3.heap.size]? = some (.stringIter s (p + K)) := (B5.block _ (Array.getElem?_eq_some_iff.1 hit2).1).trans hit2
              have HB5 := hid (HB2'.out.trans (B5.mono HB2'.out.size))
              have hW5 : w2.heap.size ≤ w5.heap.size := by have := B5.size; omega
              have HWR := hid (bl_str w2.heap.size w2.heap.size T (⟨#[92, 117, 123]⟩ ++ t ++ ⟨#[125]⟩) w5 (HBL2.out.below B5) (by omega) (by rw [ByteArray.size_append, ByteArray.size_append]; show 3 + t.size + 1 ≤ _; omega) hW5)
              have HTT : Hid (bn (⟨#[92, 117, 123]⟩ ++ t ++ ⟨#[125]⟩) = [92, 117, 123] ++ hx2 R ++ [125]) := by
                show _ = _
                rw [bn_append, bn_append, ht]; rfl
              rw [HTT.out] at HWR
              clear ht B5 HFI
              go_wp2_with fail
              refine HWR.out.mono ?_
              rintro e w6 ⟨⟨v, rfl⟩, h1, h2, h3⟩
              have hit6 := ok_iter h3 hit5 (by omega)
              have HB6 := hid (HB5.out.trans (h2.mono hw2))
              have HBL6 : Hid (Bl w2.heap.size w2.heap.size (34 :: ((bn s).take (p + K)).flatMap qb) w6) := by rw [HTK.out]; exact h1
              clear h1 h2 h3 HWR
              go_wp2
              go_roundg g'
              case measure => omega
              case rel => exact ⟨p + K, hit6, HB6.out, HBL6.out, HVN.out, hpK, by omega⟩
            · rw [if_neg hcc] at HTK
              rw [decide_eq_false hcc] at HC
              have HWR := hid (bl_rune w2.heap.size w2.heap.size T (R : Int) HSC.out W HBL2.out (by omega) hWs)
              clear hqq hcc hr0
              go_wp2_with (go_at_call 29; refine (HC.out _).mono ?_; rintro e w5 ⟨rfl, hw5⟩; obtain rfl := hw5.symm)
              refine HWR.out.mono ?_
              rintro e w6 ⟨⟨v, rfl⟩, h1, h2, h3⟩
              have hit6 := ok_iter h3 hit2 (by omega)
              have HB6 := hid (HB2'.out.trans (h2.mono hw2))
              have HBL6 : Hid (Bl w2.heap.size w2.heap.size (34 :: ((bn s).take (p + K)).flatMap qb) w6) := by rw [HTK.out]; exact h1
              clear h1 h2 h3 HWR
              go_wp2
              go_roundg g'
              case measure => omega
              case rel => exact ⟨p + K, hit6, HB6.out, HBL6.out, HVN.out, hpK, by omega⟩
        · have hnx : ∀ ty, (Instr.next (.pointer (some ⟨w3.heap.size, 0, none⟩)) true ty).run Tryz.prog wr = _ := fun ty => Lib.run_next_end_at wr w3.heap.size s p ty hit hps
          have hpe : (bn s).take p = bn s := List.take_of_length_le (by rw [bn_length]; omega)
          rw [hpe] at HBL
          have hwr2 : w2.heap.size ≤ wr.heap.size := by have := (Array.getElem?_eq_some_iff.1 hit).1; omega
          have hTl : (34 :: (bn s).flatMap qb).length ≤ 1000000 := by
            have h1 := flat_len (bn s)
            rw [bn_length] at h1
            rw [List.length_cons]
            omega
          have HWB := hid (bl_byte w2.heap.size w2.heap.size (34 :: (bn s).flatMap qb) 34 (by omega) (by omega) wr HBL.out (by omega) hwr2)
          have hw2 := HB2.out.size
          clear hpe HBL
          go_wp2_with fail
          refine HWB.out.mono ?_
          rintro e w5 ⟨rfl, h1, h2, h3⟩
          have HB5 := hid (HB.out.trans (h2.mono hw2))
          have hW5 : w2.heap.size ≤ w5.heap.size := by have := h2.size; omega
          have HSD := hid (bl_said w2.heap.size w2.heap.size _ w5 h1 hW5)
          clear h1 h2 h3 HWB
          go_wp2_with fail
          refine HSD.out.mono ?_
          rintro e w6 ⟨⟨t, ht, rfl⟩, B⟩
          have HF2 := hid (HF.out t (by rw [ht]; rfl))
          have HB6 := hid (HB5.out.trans (B.mono hw2))
          clear ht B HSD
          go_wp2
          go_ret2
          exact ⟨HF2.out, HB6.out⟩
end Go.Proofs.YtphkdagapoonjaaGreatDoor.Lx
