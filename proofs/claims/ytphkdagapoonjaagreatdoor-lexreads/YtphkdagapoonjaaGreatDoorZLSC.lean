/- A strings.Builder's check of itself, by the shelf; A strings.Builder at this program: what is written to it; Plain: the model's own decoder and nx; The library's own at this program, in plain words. -/
import Derived.Test.YtphkdagapoonjaaGreatDoorLSA
import Derived.Shelf.Strings.Builder1
import Derived.Test.YtphkdagapoonjaaGreatDoorZLXE
import Derived.Test.YtphkdagapoonjaaGreatDoorZFO
import Derived.Lib.OthersKept
import Derived.Lib.ValidU
import Derived.Lib.RuneBytes
import Derived.Shelf.Unicode.DecodeSlow
namespace Go.Proofs.YtphkdagapoonjaaGreatDoor.Lx
open Go.RowKit Go.Shelf
set_option linter.unusedVariables false

/-- The numbers of this program, in place of the shelf's. -/
def ren : Ren := ⟨fun n => match n with | 240 => 44 | 276 => 57 | _ => 0, fun n => match n with | 0 => 0 | 4 => 4 | 9 => 9 | 20 => 20 | 37 => 49 | 70 => 48 | 72 => 51 | 164 => 89 | _ => 0, fun n => 0⟩
set_option maxRecDepth 100000 in
theorem l240 : Lays.n240 Tryz.prog ren := ⟨by kernel_rfl, by kernel_rfl, by kernel_rfl,
  by kernel_rfl, fun w => by kernel_rfl, fun w => by kernel_rfl, fun w => by kernel_rfl,
  by kernel_rfl, fun w => by kernel_rfl, fun w => by kernel_rfl, fun w => by kernel_rfl,
  by kernel_rfl, fun w => by kernel_rfl, fun w => by kernel_rfl, fun w => by kernel_rfl,
  by kernel_rfl, fun w => by kernel_rfl, fun w => by kernel_rfl, fun w => by kernel_rfl,
  by kernel_rfl, fun w => by kernel_rfl, fun w => by kernel_rfl, fun w => by kernel_rfl,
  by kernel_rfl, fun w => by kernel_rfl, fun w => by kernel_rfl, fun w => by kernel_rfl,
  by kernel_rfl, fun w => by kernel_rfl, fun w => by kernel_rfl, fun w => by kernel_rfl⟩
theorem cc_fresh (b : Nat) (w : World) (h0 : w.cell? ⟨b, 0, none⟩ = some (.pointer none)) (hsh : w.shape? b = some (51, 2)) (hfz : w.frozen? ⟨b, 0, none⟩ = false) :
    Calls Tryz.prog 44 #[.pointer (some ⟨b, 0, none⟩)] w fun e w' => e = .returned (.tuple #[]) ∧ w' = w.setCell ⟨b, 0, none⟩ (.pointer (some ⟨b, 0, none⟩)) :=
  Any.Builder_copyCheck_fresh l240 ⟨by kernel_rfl, by kernel_rfl⟩ b w h0 hsh hfz
end Go.Proofs.YtphkdagapoonjaaGreatDoor.Lx
namespace Go.Proofs.YtphkdagapoonjaaGreatDoor.Lx
open Go.RowKit
open Go.Proofs.YtphkdagapoonjaaGreatDoor.F (bn bn_length bn_append bn_inj bn_get byte_bd hid bn_extract isEmpty_false isEmpty_true str_eq same_eq)
set_option linter.unusedVariables false

abbrev BF (B b : Nat) (bs : List Value) (w : World) : Prop := Lib.IsBuilderF 51 5 B b bs w
abbrev BA (B b : Nat) (bs : List Value) (w : World) : Prop := Lib.BuilderAtF 51 5 B b (.pointer (some ⟨b, 0, none⟩)) bs w
abbrev OK (b : Nat) (w w' : World) : Prop := Lib.OthersKept 5 (some b) w w'
theorem infoU8 : (Tryz.prog.info? 5).map (fun i => (i.zero, i.size, i.bytes)) = some (some (.int .u8 0), 1, 1) := by kernel_rfl
set_option maxHeartbeats 1000000 in
set_option maxRecDepth 100000 in
theorem cc_used (b : Nat) (w : World) (h0 : w.cell? ⟨b, 0, none⟩ = some (.pointer (some ⟨b, 0, none⟩))) :
    Calls Tryz.prog 44 #[.pointer (some ⟨b, 0, none⟩)] w fun e w' => e = .returned (.tuple #[]) ∧ w' = w := by
  obtain ⟨j, hj, hjs⟩ := Option.map_eq_some_iff.1 (show (Tryz.prog.info? 51).map (·.size) = some 2 by kernel_rfl)
  go_enter Tryz.func44, Tryz.ntmps44
  go_wp2
  rw [Lib.run_neq_ptr_same w _ Tryz.underlying48 hj]
  go_wp2
  go_end0
  exact ⟨rfl, rfl⟩
theorem cc_any (B b : Nat) (bs : List Value) (w : World) (h : BF B b bs w) :
    Calls Tryz.prog 44 #[.pointer (some ⟨b, 0, none⟩)] w fun e w' => e = .returned (.tuple #[]) ∧ (BA B b bs w' ∧ Below B w w' ∧ OK b w w') := by
  rcases h with h | h
  · refine (cc_fresh b w h.cell0 h.shape h.frozen0).mono ?_
    rintro e w' ⟨rfl, rfl⟩
    exact ⟨rfl, h.used _, (Below.refl B w).setCell (p := ⟨b, 0, none⟩) h.1 _, (Lib.OthersKept.refl _ _ w).setCell ⟨b, 0, none⟩ rfl _⟩
  · refine (cc_used b w h.cell0).mono ?_
    rintro e w' ⟨rfl, rfl⟩
    exact ⟨rfl, h, Below.refl B _, Lib.OthersKept.refl _ _ _⟩
theorem heap_lt {w : World} {b : Nat} {o : Obj} (h : w.heap[b]? = some o) : b < w.heap.size := (Array.getElem?_eq_some_iff.1 h).1
set_option maxHeartbeats 2000000 in
set_option maxRecDepth 100000 in
theorem wb_any (B b : Nat) (bs : List Value) (c : Int) (w : World) (h : BF B b bs w) (hlen : bs.length + 1 ≤ 140737488355328) (hBw : B ≤ w.heap.size) :
    Calls Tryz.prog 21 #[.pointer (some ⟨b, 0, none⟩), .int .u8 c] w fun e w' => e = .returned .nilIface ∧ (BA B b (bs ++ [.int .u8 c]) w' ∧ Below B w w' ∧ OK b w w') := by
  obtain ⟨i0, hi, hz0, hz1, hz2⟩ := info_parts infoU8
  have HC := hid (cc_any B b bs w h)
  go_enter Tryz.func21, Tryz.ntmps21
  go_wp2_with (go_at_call 44; refine HC.out.mono ?_)
  rintro e w1 ⟨rfl, h1, hb1, hk1⟩
  obtain ⟨hB, v, hbk, hown, hne⟩ := h1
  have c0 : w1.cell? ⟨b, 0, none⟩ = some (.pointer (some ⟨b, 0, none⟩)) := by rw [Lib.cell_of_heap hbk]; rfl
  have c1 : w1.cell? ⟨b, 1, none⟩ = some v := by rw [Lib.cell_of_heap hbk]; rfl
  go_wp2_with (at_builtin; refine wpList_append_ownF _ rfl _ _ 49 rfl B 5 i0 (.int .u8 0) 1 1 Tryz.underlying49 hi hz0 hz1 hz2 rfl (by decide) _ _ _ rfl (hown.alloc _) ⟨w1.heap.size, 0, none⟩ 1 1 [.int .u8 c] rfl rfl ?c1 ?c2 ?c3 ?c4 ?c5 ?_)
  case c1 =>
    intro j u hj
    match j, hj with
    | 0, hj => simp at hj; subst hj; simp [Addr.add]
  case c2 => intro u hu; simp at hu; subst hu; rfl
  case c3 => unfold maxLen; omega
  case c4 => omega
  case c5 => have := hb1.size; simp; omega
  intro v' w2 hown' hgrow _
  have hlt : b < w1.heap.size := heap_lt hbk
  have hb2 : w2.heap[b]? = some (.cells #[.pointer (some ⟨b, 0, none⟩), v] 51 (0, 0)) := by
    rw [hgrow.block b (by simp; omega) (fun e => hne e.symm), Lib.alloc_old w1 _ b hlt]
    exact hbk
  have d0 : w2.cell? ⟨b, 0, none⟩ = some (.pointer (some ⟨b, 0, none⟩)) := by rw [Lib.cell_of_heap hb2]; rfl
  have d1 : w2.cell? ⟨b, 1, none⟩ = some v := by rw [Lib.cell_of_heap hb2]; rfl
  have f1 : w2.frozen? ⟨b, 1, none⟩ = false := Lib.frozen_of_heap hb2 1
  obtain ⟨g, cap, rfl⟩ : ∃ g cap, v' = .slice (some ⟨g, 0, none⟩) (bs.length + 1) cap := by
    rcases hown'.2 with ⟨_, h0⟩ | ⟨g, cap, cur, fz, hv, _⟩
    · omega
    · exact ⟨g, cap, hv⟩
  go_wp2
  go_ret
  refine ⟨rfl, ?_, ?_, ((hk1.alloc _).grown hgrow (Lib.ownsRowF_kind (hown.alloc _))).setCell ⟨b, 1, none⟩ rfl _⟩
  · exact Lib.BuilderAtF.put hB hb2 (bs' := bs ++ [.int .u8 c]) (by simpa using hown') (by decide)
  · exact ((hb1.alloc (by have := hb1.size; omega) _).grown hgrow (by have := hb1.size; simp; omega) (fun k hk => (hown.lt k hk).1)).setCell (p := ⟨b, 1, none⟩) hB _
set_option maxHeartbeats 2000000 in
set_option maxRecDepth 100000 in
theorem ws_any (B b : Nat) (bs : List Value) (s : ByteArray) (w : World) (h : BF B b bs w) (hlen : bs.length + s.size ≤ 140737488355328) (hBw : B ≤ w.heap.size) :
    Calls Tryz.prog 24 #[.pointer (some ⟨b, 0, none⟩), .string s] w fun e w' => e = .returned (.tuple #[.int .i64 s.size, .nilIface]) ∧ (BA B b (bs ++ Lib.strCells s) w' ∧ Below B w w' ∧ OK b w w') := by
  obtain ⟨i0, hi, hz0, hz1, hz2⟩ := info_parts infoU8
  have HC := hid (cc_any B b bs w h)
  go_enter Tryz.func24, Tryz.ntmps24
  go_wp2_with (go_at_call 44; refine HC.out.mono ?_)
  rintro e w1 ⟨rfl, h1, hb1, hk1⟩
  obtain ⟨hB, v, hbk, hown, hne⟩ := h1
  have c0 : w1.cell? ⟨b, 0, none⟩ = some (.pointer (some ⟨b, 0, none⟩)) := by rw [Lib.cell_of_heap hbk]; rfl
  have c1 : w1.cell? ⟨b, 1, none⟩ = some v := by rw [Lib.cell_of_heap hbk]; rfl
  go_wp2_with (at_builtin; refine Lib.wpList_append_own_stringF _ rfl _ _ 49 9 rfl B 5 i0 Tryz.underlying49 Tryz.underlying9 hi hz0 hz1 hz2 _ _ _ rfl hown s rfl ?c3 ?c4 ?c5 ?_)
  case c3 => unfold maxLen; omega
  case c4 => omega
  case c5 => have := hb1.size; omega
  intro v' w2 hown' hgrow _
  have hlt : b < w1.heap.size := heap_lt hbk
  have hb2 : w2.heap[b]? = some (.cells #[.pointer (some ⟨b, 0, none⟩), v] 51 (0, 0)) := by
    rw [hgrow.block b hlt (fun e => hne e.symm)]
    exact hbk
  have d0 : w2.cell? ⟨b, 0, none⟩ = some (.pointer (some ⟨b, 0, none⟩)) := by rw [Lib.cell_of_heap hb2]; rfl
  have d1 : w2.cell? ⟨b, 1, none⟩ = some v := by rw [Lib.cell_of_heap hb2]; rfl
  have f1 : w2.frozen? ⟨b, 1, none⟩ = false := Lib.frozen_of_heap hb2 1
  obtain ⟨ao, cap, rfl⟩ : ∃ ao cap, v' = .slice ao (bs.length + s.size) cap := by
    rcases hown'.2 with ⟨hv, h0⟩ | ⟨g, cap, cur, fz, hv, _⟩
    · exact ⟨none, 0, by rw [hv, h0]⟩
    · exact ⟨_, _, hv⟩
  go_wp2
  go_ret2
  refine ⟨rfl, ?_, ?_, (hk1.grown hgrow (Lib.ownsRowF_kind hown)).setCell ⟨b, 1, none⟩ rfl _⟩
  · exact Lib.BuilderAtF.put hB hb2 (bs' := bs ++ Lib.strCells s) (by simpa [Lib.strCells_length] using hown') (by decide)
  · exact (hb1.grown hgrow (by have := hb1.size; omega) (fun k hk => (hown.lt k hk).1)).setCell (p := ⟨b, 1, none⟩) hB _
set_option maxHeartbeats 4000000 in
set_option maxRecDepth 100000 in
theorem wrn_any (B b : Nat) (bs : List Value) (r : Int) (hr0 : -2147483648 ≤ r) (hr1 : r ≤ 2147483647) (w : World) (h : BF B b bs w) (hlen : bs.length + 4 ≤ 140737488355328) (hBw : B ≤ w.heap.size) :
    Calls Tryz.prog 28 #[.pointer (some ⟨b, 0, none⟩), .int .i32 r] w fun e w' => e = .returned (.tuple #[.int .i64 (Lib.runeCells r).length, .nilIface]) ∧ (BA B b (bs ++ Lib.runeCells r) w' ∧ Below B w w' ∧ OK b w w') := by
  have HC := hid (cc_any B b bs w h)
  have hk4 := Lib.runeCells_le r
  have hf : Tryz.l242_ren.f 242 = 46 := by kernel_rfl
  have HAR : Hid (∀ (v : Value) (n : Nat) (xs : List Value) (W : World), W.ownsRowF B 5 1 v n xs → n + 4 ≤ 140737488355328 → B ≤ W.heap.size → Calls Tryz.prog 46 #[v, .int .i32 r] W fun e w' => ∃ v', e = .returned v' ∧ w'.ownsRowF B 5 1 v' (n + (Lib.runeCells r).length) (xs ++ Lib.runeCells r) ∧ ∃ o, (W.alloc o).grownBy w' v.ownBlock) := fun v n xs W h1 h2 h3 => by
    have := Any.utf8_AppendRune_row Tryz.l242 (by kernel_rfl) B v n xs r hr0 hr1 W h1 h2 h3
    rw [hf] at this
    exact this
  go_enter Tryz.func28, Tryz.ntmps28
  go_wp2_with (go_at_call 44; refine HC.out.mono ?_)
  rintro e w1 ⟨rfl, h1, hb1, hk1⟩
  obtain ⟨hB, v, hbk, hown, hne⟩ := h1
  obtain ⟨ao, cap, rfl⟩ : ∃ ao cap, v = .slice ao bs.length cap := by
    rcases hown.2 with ⟨hv, h0⟩ | ⟨g, cap, cur, fz, hv, _⟩
    · exact ⟨none, 0, by rw [hv, h0]⟩
    · exact ⟨_, _, hv⟩
  have c0 : w1.cell? ⟨b, 0, none⟩ = some (.pointer (some ⟨b, 0, none⟩)) := by rw [Lib.cell_of_heap hbk]; rfl
  have c1 : w1.cell? ⟨b, 1, none⟩ = some (.slice ao bs.length cap) := by rw [Lib.cell_of_heap hbk]; rfl
  go_wp2_with (go_at_call 46; refine (HAR.out _ bs.length bs _ hown hlen (by have := hb1.size; omega)).mono ?_)
  rintro e w2 ⟨v', rfl, hown', o, hgrow⟩
  have hlt : b < w1.heap.size := heap_lt hbk
  have hb2 : w2.heap[b]? = some (.cells #[.pointer (some ⟨b, 0, none⟩), .slice ao bs.length cap] 51 (0, 0)) := by
    rw [hgrow.block b (by simp; omega) (fun e => hne e.symm), Lib.alloc_old w1 _ b hlt]
    exact hbk
  have d0 : w2.cell? ⟨b, 0, none⟩ = some (.pointer (some ⟨b, 0, none⟩)) := by rw [Lib.cell_of_heap hb2]; rfl
  have d1 : w2.cell? ⟨b, 1, none⟩ = some (.slice ao bs.length cap) := by rw [Lib.cell_of_heap hb2]; rfl
  have f1 : w2.frozen? ⟨b, 1, none⟩ = false := Lib.frozen_of_heap hb2 1
  obtain ⟨g, cap', rfl⟩ : ∃ g cap', v' = .slice g (bs.length + (Lib.runeCells r).length) cap' := by
    rcases hown'.2 with ⟨hv, h0⟩ | ⟨g, cap, cur, fz, hv, _⟩
    · exact ⟨none, 0, by rw [hv, h0]⟩
    · exact ⟨_, _, hv⟩
  have hb3 : w2.heap.size ≥ w1.heap.size := by have := hgrow.size; simp at this; omega
  obtain ⟨L, hL⟩ : ∃ L, (Lib.runeCells r).length = L := ⟨_, rfl⟩
  rw [hL] at hk4
  have hwr : IntKind.i64.wrap (((bs.length + L : Nat) : Int) - (bs.length : Int)) = (L : Int) := by
    rw [show ((bs.length + L : Nat) : Int) - (bs.length : Int) = (L : Int) by omega]
    rw [IntKind.wrap_i64]; omega
  have HL := hid hL
  rw [hL] at hown'
  go_wp2
  go_ret2
  refine ⟨?_, ?_, ?_, ((hk1.alloc _).grown hgrow (Lib.ownsRowF_kind (hown.alloc _))).setCell ⟨b, 1, none⟩ rfl _⟩
  · rw [HL.out]; first | rfl | (simp; omega) | (congr 3; simp; omega)
  · exact Lib.BuilderAtF.put hB hb2 (bs' := bs ++ Lib.runeCells r) (by simpa [HL.out] using hown') (by decide)
  · exact ((hb1.alloc (by have := hb1.size; omega) _).grown hgrow (by have := hb1.size; simp; omega) (fun k hk => (hown.lt k hk).1)).setCell (p := ⟨b, 1, none⟩) hB _
end Go.Proofs.YtphkdagapoonjaaGreatDoor.Lx
namespace Go.Proofs.YtphkdagapoonjaaGreatDoor.Lx
open Go.RowKit
open Go.Proofs.YtphkdagapoonjaaGreatDoor.F (bn bn_length bn_append bn_inj bn_get byte_bd hid bn_extract)
open Go.Proofs.YtphkdagapoonjaaGreatDoor.U (nx nxl lowOf highOf enc encs scal val Bytes)
set_option linter.unusedVariables false

theorem get_at (s : ByteArray) (p k : Nat) (h : p + k < s.size) : ((bn s).drop p)[k]? = some ((s.get! (p + k)).toNat : Int) := by
  rw [List.getElem?_drop]
  have h' : p + k < (bn s).length := by rw [bn_length]; exact h
  rw [List.getElem?_eq_getElem h']
  simp only [bn, List.getElem_map, Utf8W.get!_of_lt s _ h]
  rfl
theorem get_no (s : ByteArray) (p k : Nat) (h : ¬ p + k < s.size) : ((bn s).drop p)[k]? = none := by
  rw [List.getElem?_drop, List.getElem?_eq_none]
  rw [bn_length]; omega
theorem tail_form (l : List Int) : (l = [] ∨ ∃ b, l = [b]) ∨ (∃ b c, l = [b, c]) ∨ ∃ b c d r, l = b :: c :: d :: r := by
  rcases l with _ | ⟨b, _ | ⟨c, _ | ⟨d, r⟩⟩⟩
  · exact .inl (.inl rfl)
  · exact .inl (.inr ⟨_, rfl⟩)
  · exact .inr (.inl ⟨_, _, rfl⟩)
  · exact .inr (.inr ⟨_, _, _, _, rfl⟩)
/-- The decoder over a list of numbers. -/
def dcd (l : List Int) : Int × Nat :=
  let at' (k : Nat) : Int := l[k]?.getD 0
  let cont (k : Nat) : Bool := decide (k < l.length ∧ at' k / 64 = 2)
  if at' 0 < 128 then (at' 0, 1)
  else if decide (at' 0 / 32 = 6) && cont 1 then
    if 128 ≤ (at' 0 % 32) * 64 + at' 1 % 64 then ((at' 0 % 32) * 64 + at' 1 % 64, 2) else (65533, 1)
  else if decide (at' 0 / 16 = 14) && cont 1 && cont 2 then
    if 2048 ≤ (at' 0 % 16) * 4096 + (at' 1 % 64) * 64 + at' 2 % 64 ∧ scal ((at' 0 % 16) * 4096 + (at' 1 % 64) * 64 + at' 2 % 64) = true then ((at' 0 % 16) * 4096 + (at' 1 % 64) * 64 + at' 2 % 64, 3) else (65533, 1)
  else if decide (at' 0 / 8 = 30) && cont 1 && cont 2 && cont 3 then
    if 65536 ≤ (at' 0 % 8) * 262144 + (at' 1 % 64) * 4096 + (at' 2 % 64) * 64 + at' 3 % 64 ∧ scal ((at' 0 % 8) * 262144 + (at' 1 % 64) * 4096 + (at' 2 % 64) * 64 + at' 3 % 64) = true then ((at' 0 % 8) * 262144 + (at' 1 % 64) * 4096 + (at' 2 % 64) * 64 + at' 3 % 64, 4) else (65533, 1)
  else (65533, 1)
theorem valid_scal (n : Nat) : Utf8.valid (n : Int) = scal (n : Int) := by
  unfold Utf8.valid scal
  rw [Bool.eq_iff_iff]
  simp only [Bool.or_eq_true, Bool.and_eq_true, decide_eq_true_eq]
  omega
theorem dec_dcd (s : ByteArray) (p : Nat) (h : p < s.size) : ((Utf8.decode s p).1 : Int) = (dcd ((bn s).drop p)).1 ∧ (Utf8.decode s p).2 = (dcd ((bn s).drop p)).2 := by
  obtain ⟨G, hG⟩ : ∃ G : Nat → Nat, ∀ k, (s.get! (p + k)).toNat = G k := ⟨_, fun _ => rfl⟩
  have hl : ((bn s).drop p).length = s.size - p := by rw [List.length_drop, bn_length]
  have hv : ∀ k, p + k < s.size → ((bn s).drop p)[k]?.getD 0 = (G k : Int) := fun k hk => by rw [get_at s p k hk, hG]; rfl
  have hc : ∀ k, (decide (p + k < s.size) && G k / 64 == 2) = decide (k < ((bn s).drop p).length ∧ (((bn s).drop p)[k]?.getD 0) / 64 = 2) := by
    intro k
    rw [hl]
    by_cases hk : p + k < s.size
    · rw [hv k hk, Bool.eq_iff_iff]
      simp only [Bool.and_eq_true, decide_eq_true_eq, beq_iff_eq]
      omega
    · rw [Bool.eq_iff_iff]
      simp only [Bool.and_eq_true, decide_eq_true_eq, beq_iff_eq]
      omega
  have hD : Utf8.decode s p = (if G 0 < 128 then (G 0, 1)
      else if G 0 / 32 == 6 && (decide (p + 1 < s.size) && G 1 / 64 == 2) then
        if (G 0 % 32) * 64 + G 1 % 64 ≥ 128 then ((G 0 % 32) * 64 + G 1 % 64, 2) else (65533, 1)
      else if G 0 / 16 == 14 && (decide (p + 1 < s.size) && G 1 / 64 == 2) && (decide (p + 2 < s.size) && G 2 / 64 == 2) then
        if (G 0 % 16) * 4096 + (G 1 % 64) * 64 + G 2 % 64 ≥ 2048 && Utf8.valid (((G 0 % 16) * 4096 + (G 1 % 64) * 64 + G 2 % 64 : Nat) : Int) then ((G 0 % 16) * 4096 + (G 1 % 64) * 64 + G 2 % 64, 3) else (65533, 1)
      else if G 0 / 8 == 30 && (decide (p + 1 < s.size) && G 1 / 64 == 2) && (decide (p + 2 < s.size) && G 2 / 64 == 2) && (decide (p + 3 < s.size) && G 3 / 64 == 2) then
        if (G 0 % 8) * 262144 + (G 1 % 64) * 4096 + (G 2 % 64) * 64 + G 3 % 64 ≥ 65536 && Utf8.valid (((G 0 % 8) * 262144 + (G 1 % 64) * 4096 + (G 2 % 64) * 64 + G 3 % 64 : Nat) : Int) then ((G 0 % 8) * 262144 + (G 1 % 64) * 4096 + (G 2 % 64) * 64 + G 3 % 64, 4) else (65533, 1)
      else (65533, 1)) := by
    rw [← hG 0, ← hG 1, ← hG 2, ← hG 3]
    rfl
  rw [hD]
  simp only [hc]
  clear hD hc hG
  obtain ⟨l, hL⟩ : ∃ l, (bn s).drop p = l := ⟨_, rfl⟩
  rw [hL] at hv hl ⊢
  have h0 := hv 0 (by omega)
  unfold dcd
  simp only [h0]
  obtain ⟨A, hA⟩ : ∃ A, G 0 = A := ⟨_, rfl⟩
  rw [hA]
  clear hA h0
  have d1 : decide ((A : Int) / 32 = 6) = (A / 32 == 6) := by rw [Bool.eq_iff_iff]; simp only [decide_eq_true_eq, beq_iff_eq]; omega
  have d2 : decide ((A : Int) / 16 = 14) = (A / 16 == 14) := by rw [Bool.eq_iff_iff]; simp only [decide_eq_true_eq, beq_iff_eq]; omega
  have d3 : decide ((A : Int) / 8 = 30) = (A / 8 == 30) := by rw [Bool.eq_iff_iff]; simp only [decide_eq_true_eq, beq_iff_eq]; omega
  rw [d1, d2, d3]
  by_cases ha : A < 128
  · rw [if_pos ha, if_pos (by omega)]; exact ⟨rfl, rfl⟩
  rw [if_neg ha, if_neg (show ¬ (A : Int) < 128 by omega)]
  by_cases hb : (A / 32 == 6 && decide (1 < l.length ∧ l[1]?.getD 0 / 64 = 2)) = true
  · rw [if_pos hb, if_pos hb]
    simp only [Bool.and_eq_true, decide_eq_true_eq] at hb
    rw [hv 1 (by omega)]
    by_cases h2 : A % 32 * 64 + G 1 % 64 ≥ 128
    · rw [if_pos h2, if_pos (by omega)]; exact ⟨by simp only; omega, rfl⟩
    · rw [if_neg h2, if_neg (by omega)]; exact ⟨rfl, rfl⟩
  rw [if_neg hb, if_neg hb]
  by_cases hb2 : (A / 16 == 14 && decide (1 < l.length ∧ l[1]?.getD 0 / 64 = 2) && decide (2 < l.length ∧ l[2]?.getD 0 / 64 = 2)) = true
  · rw [if_pos hb2, if_pos hb2]
    simp only [Bool.and_eq_true, decide_eq_true_eq] at hb2
    rw [hv 1 (by omega), hv 2 (by omega)]
    have hcast : (A : Int) % 16 * 4096 + (G 1 : Int) % 64 * 64 + (G 2 : Int) % 64 = ((A % 16 * 4096 + G 1 % 64 * 64 + G 2 % 64 : Nat) : Int) := by omega
    rw [hcast]
    simp only [valid_scal]
    obtain ⟨X, hX⟩ : ∃ X, A % 16 * 4096 + G 1 % 64 * 64 + G 2 % 64 = X := ⟨_, rfl⟩
    rw [hX]
    by_cases h2 : 2048 ≤ (X : Int) ∧ scal (X : Int) = true
    · rw [if_pos h2, if_pos (by simp only [Bool.and_eq_true, decide_eq_true_eq]; exact ⟨by omega, h2.2⟩)]; exact ⟨rfl, rfl⟩
    · rw [if_neg h2, if_neg (by simp only [Bool.and_eq_true, decide_eq_true_eq]; intro h; exact h2 ⟨by omega, h.2⟩)]; exact ⟨rfl, rfl⟩
  rw [if_neg hb2, if_neg hb2]
  by_cases hb3 : (A / 8 == 30 && decide (1 < l.length ∧ l[1]?.getD 0 / 64 = 2) && decide (2 < l.length ∧ l[2]?.getD 0 / 64 = 2) && decide (3 < l.length ∧ l[3]?.getD 0 / 64 = 2)) = true
  · rw [if_pos hb3, if_pos hb3]
    simp only [Bool.and_eq_true, decide_eq_true_eq] at hb3
    rw [hv 1 (by omega), hv 2 (by omega), hv 3 (by omega)]
    have hcast : (A : Int) % 8 * 262144 + (G 1 : Int) % 64 * 4096 + (G 2 : Int) % 64 * 64 + (G 3 : Int) % 64 = ((A % 8 * 262144 + G 1 % 64 * 4096 + G 2 % 64 * 64 + G 3 % 64 : Nat) : Int) := by omega
    rw [hcast]
    simp only [valid_scal]
    obtain ⟨X, hX⟩ : ∃ X, A % 8 * 262144 + G 1 % 64 * 4096 + G 2 % 64 * 64 + G 3 % 64 = X := ⟨_, rfl⟩
    rw [hX]
    by_cases h2 : 65536 ≤ (X : Int) ∧ scal (X : Int) = true
    · rw [if_pos h2, if_pos (by simp only [Bool.and_eq_true, decide_eq_true_eq]; exact ⟨by omega, h2.2⟩)]; exact ⟨rfl, rfl⟩
    · rw [if_neg h2, if_neg (by simp only [Bool.and_eq_true, decide_eq_true_eq]; intro h; exact h2 ⟨by omega, h.2⟩)]; exact ⟨rfl, rfl⟩
  rw [if_neg hb3, if_neg hb3]
  exact ⟨rfl, rfl⟩
theorem scal_iff {c : Int} : scal c = true ↔ 0 ≤ c ∧ c ≤ 1114111 ∧ (c < 55296 ∨ 57343 < c) := by unfold scal; exact decide_eq_true_iff
set_option maxRecDepth 10000 in
theorem dcd_nx {a : Int} {t : List Int} (hb : Bytes (a :: t)) : dcd (a :: t) = if (nx (a :: t)).2.2 = true then ((nx (a :: t)).1, (nx (a :: t)).2.1) else (65533, 1) := by
  have ha := hb a (by simp)
  have ht : ∀ x ∈ t, 0 ≤ x ∧ x ≤ 255 := fun x hx => hb x (by simp [hx])
  by_cases h8 : a < 128
  · rw [nx, if_pos h8]
    unfold dcd
    simp [h8]
  have hc : ∀ b : Int, (0 ≤ b ∧ b ≤ 255) → (b / 64 = 2 ↔ 128 ≤ b ∧ b ≤ 191) := fun b hb => by omega
  by_cases hn : U.follow a = 0
  · rw [nx, if_neg h8, if_pos hn]
    simp only [Bool.false_eq_true, if_false]
    have hr : a ≤ 193 ∨ 245 ≤ a := by unfold U.follow at hn; (repeat' split at hn) <;> omega
    unfold dcd
    simp only [List.getElem?_cons_zero, Option.getD_some, if_neg h8]
    split
    · rename_i h
      simp only [Bool.and_eq_true, decide_eq_true_eq] at h
      rw [if_neg (by omega)]
    · split
      · rename_i h
        simp only [Bool.and_eq_true, decide_eq_true_eq] at h
        omega
      · split
        · rename_i h
          simp only [Bool.and_eq_true, decide_eq_true_eq] at h
          rw [if_neg (by rw [scal_iff]; omega)]
        · rfl
  have e : nx (a :: t) = nxl (U.follow a).toNat t 1 (if U.follow a = 1 then a % 32 else if U.follow a = 2 then a % 16 else a % 8) (lowOf a) (highOf a) := by rw [nx, if_neg h8, if_neg hn]
  rw [e]
  unfold dcd
  simp only [List.getElem?_cons_zero, Option.getD_some, if_neg h8, List.getElem?_cons_succ, List.length_cons]
  rcases U.follow_cases a with hf | ⟨hf, h1, h2⟩ | ⟨hf, h1, h2⟩ | ⟨hf, h1, h2⟩
  · exact absurd hf hn
  · have l1 : lowOf a = 128 := by unfold lowOf; rw [if_neg (by omega), if_neg (by omega)]
    have l2 : highOf a = 191 := by unfold highOf; rw [if_neg (by omega), if_neg (by omega)]
    have q1 : a / 32 = 6 := by omega
    have q2 : ¬ a / 16 = 14 := by omega
    have q3 : ¬ a / 8 = 30 := by omega
    rw [hf, l1, l2, show (if (1 : Int) = 1 then a % 32 else if (1 : Int) = 2 then a % 16 else a % 8) = a % 32 by simp, show (1 : Int).toNat = 1 from rfl]
    rcases t with _ | ⟨b, t⟩
    · simp [nxl, q1, q2, q3]
    · have hb1 := ht b (by simp)
      simp only [nxl, List.getElem?_cons_zero, Option.getD_some, q1, q2, q3, hc b hb1]
      by_cases hx : 128 ≤ b ∧ b ≤ 191
      · have hy : ¬ (b < 128 ∨ 191 < b) := by omega
        simp [hx, hy]
        omega
      · have hy : b < 128 ∨ 191 < b := by omega
        simp [hx, hy]
  · have q1 : ¬ a / 32 = 6 := by omega
    have q2 : a / 16 = 14 := by omega
    have q3 : ¬ a / 8 = 30 := by omega
    rw [hf]
    rcases t with _ | ⟨b, _ | ⟨c, t⟩⟩
    · simp [nxl, q1, q2, q3]
    · have hb1 := ht b (by simp)
      simp [nxl, q1, q2, q3]
      split <;> simp
    · have hb1 := ht b (by simp)
      have hc1 := ht c (by simp)
      have e2 : (2 : Int).toNat = 2 := rfl
      rw [e2, show (if (2 : Int) = 1 then a % 32 else if (2 : Int) = 2 then a % 16 else a % 8) = a % 16 by simp]
      simp only [nxl, List.getElem?_cons_zero, List.getElem?_cons_succ, Option.getD_some, q1, q2, q3, hc b hb1, hc c hc1, scal_iff]
      have z1 : lowOf a = 128 ∧ a ≠ 224 ∨ lowOf a = 160 ∧ a = 224 := by unfold lowOf; (repeat' split) <;> omega
      have z2 : highOf a = 191 ∧ a ≠ 237 ∨ highOf a = 159 ∧ a = 237 := by unfold highOf; (repeat' split) <;> omega
      have n1 : 1 < t.length + 1 + 1 := by omega
      have n2 : 2 < t.length + 1 + 1 + 1 := by omega
      by_cases hx : 128 ≤ b ∧ b ≤ 191
      · by_cases hy : 128 ≤ c ∧ c ≤ 191
        · by_cases hlo : b < lowOf a ∨ highOf a < b
          · simp [hx, hy, hlo]
            omega
          · have hyf : ¬ (c < 128 ∨ 191 < c) := by omega
            simp [hx, hy, hlo, hyf]
            rw [if_pos (by omega)]
            refine Prod.ext (by simp only; omega) rfl
        · have hy' : c < 128 ∨ 191 < c := by omega
          by_cases hlo : b < lowOf a ∨ highOf a < b
          · simp [hx, hy, hlo]
          · simp [hx, hy, hlo, hy']
      · have hlo : b < lowOf a ∨ highOf a < b := by omega
        simp [hx, hlo]
  · have q1 : ¬ a / 32 = 6 := by omega
    have q2 : ¬ a / 16 = 14 := by omega
    have q3 : a / 8 = 30 := by omega
    rw [hf]
    have e3 : (3 : Int).toNat = 3 := rfl
    rw [e3, show (if (3 : Int) = 1 then a % 32 else if (3 : Int) = 2 then a % 16 else a % 8) = a % 8 by simp]
    have z1 : lowOf a = 128 ∧ a ≠ 240 ∨ lowOf a = 144 ∧ a = 240 := by unfold lowOf; (repeat' split) <;> omega
    have z2 : highOf a = 191 ∧ a ≠ 244 ∨ highOf a = 143 ∧ a = 244 := by unfold highOf; (repeat' split) <;> omega
    rcases t with _ | ⟨b, _ | ⟨c, _ | ⟨d, t⟩⟩⟩
    · simp [nxl, q1, q2, q3]
    · have hb1 := ht b (by simp)
      simp [nxl, q1, q2, q3]
      split <;> simp
    · have hb1 := ht b (by simp)
      have hc1 := ht c (by simp)
      simp [nxl, q1, q2, q3]
      (repeat' split) <;> simp_all
    · have hb1 := ht b (by simp)
      have hc1 := ht c (by simp)
      have hd1 := ht d (by simp)
      simp only [nxl, List.getElem?_cons_zero, List.getElem?_cons_succ, Option.getD_some, q1, q2, q3, hc b hb1, hc c hc1, hc d hd1, scal_iff]
      by_cases hx : 128 ≤ b ∧ b ≤ 191
      · by_cases hy : 128 ≤ c ∧ c ≤ 191
        · by_cases hz : 128 ≤ d ∧ d ≤ 191
          · by_cases hlo : b < lowOf a ∨ highOf a < b
            · simp [hx, hy, hz, hlo]
              omega
            · have hyf : ¬ (c < 128 ∨ 191 < c) := by omega
              have hzf : ¬ (d < 128 ∨ 191 < d) := by omega
              simp [hx, hy, hz, hlo, hyf, hzf]
              rw [if_pos (by omega)]
              refine Prod.ext (by simp only; omega) rfl
          · have hz' : d < 128 ∨ 191 < d := by omega
            by_cases hlo : b < lowOf a ∨ highOf a < b
            · simp [hx, hy, hz, hlo]
            · have hyf : ¬ (c < 128 ∨ 191 < c) := by omega
              simp [hx, hy, hz, hlo, hz', hyf]
        · have hy' : c < 128 ∨ 191 < c := by omega
          by_cases hlo : b < lowOf a ∨ highOf a < b
          · simp [hx, hy, hlo]
          · simp [hx, hy, hlo, hy']
      · have hlo : b < lowOf a ∨ highOf a < b := by omega
        simp [hx, hlo]
/-- What the decoder gives of what stands at the place p, by what nx tells of it. -/
theorem dec_nx (s : ByteArray) (p : Nat) (h : p < s.size) : ((Utf8.decode s p).1 : Int) = (if (nx ((bn s).drop p)).2.2 = true then (nx ((bn s).drop p)).1 else 65533) ∧ (Utf8.decode s p).2 = (if (nx ((bn s).drop p)).2.2 = true then (nx ((bn s).drop p)).2.1 else 1) := by
  have hd := dec_dcd s p h
  have hB : Bytes ((bn s).drop p) := fun b hb => U.bn_bytes s b (List.mem_of_mem_drop hb)
  rcases hl : (bn s).drop p with _ | ⟨a, t⟩
  · rw [List.drop_eq_nil_iff, bn_length] at hl; omega
  rw [hl] at hd hB
  rw [dcd_nx hB] at hd
  rw [hd.1, hd.2]
  cases (nx (a :: t)).2.2 <;> simp
/-- What is no part of valid UTF-8 is told by the sign and one byte. -/
theorem nx_sign {l : List Int} (hb : Bytes l) (hl : l ≠ []) (h : (nx l).2.2 = true) : ¬ ((nx l).1 = 65533 ∧ (nx l).2.1 = 1) := by
  rcases U.nx_inv l hl hb with ⟨a, t, e, h0, h1, hn⟩ | ⟨a, b, t, e, h0, h1, h2, h3, hn⟩ | ⟨a, b, c, t, e, h0, h1, h2, h3, h4, h5, hn⟩ | ⟨a, b, c, d, t, e, h0, h1, h2, h3, h4, h5, h6, h7, hn⟩ | ⟨n, h0, h1, hn⟩
  · rw [hn]; simp only; omega
  · rw [hn]; simp
  · rw [hn]; simp
  · rw [hn]; simp
  · rw [hn] at h; cases h
theorem decL_nx (s : ByteArray) (p : Nat) (h : p < s.size) : Utf8.decode s p = Utf8.decode (s.extract p s.size) 0 := by
  have hh : 0 < (s.extract p s.size).size := by simp; omega
  have h1 := dec_dcd s p h
  have h2 := dec_dcd (s.extract p s.size) 0 hh
  rw [bn_extract, List.drop_zero] at h2
  have e1 : ((Utf8.decode s p).1 : Int) = (Utf8.decode (s.extract p s.size) 0).1 := by rw [h1.1, h2.1]
  exact Prod.ext (by omega) (by rw [h1.2, h2.2])
end Go.Proofs.YtphkdagapoonjaaGreatDoor.Lx
namespace Go.Proofs.YtphkdagapoonjaaGreatDoor.Lx
open Go.RowKit
open Go.Proofs.YtphkdagapoonjaaGreatDoor.F (bn bn_length bn_append bn_inj bn_get byte_bd hid bn_extract isEmpty_false isEmpty_true str_eq same_eq)
open Go.Proofs.YtphkdagapoonjaaGreatDoor.U (nx enc encs scal val Bytes)
set_option linter.unusedVariables false

/-- What the library keeps: the tables of utf8, a number, two errors. -/
structure Gl (w : World) : Prop where
  tabs : Lib.Utf8Tabs 0 1 w
  maxl : ∃ m : Int, w.cell? ⟨3, 0, none⟩ = some (.int .i64 m)
  esyn : ∃ ev, w.cell? ⟨6, 0, none⟩ = some ev ∧ (ev = .nilIface ∨ ∃ te pe, ev = .iface te pe)
  eran : ∃ ev, w.cell? ⟨7, 0, none⟩ = some ev ∧ (ev = .nilIface ∨ ∃ te pe, ev = .iface te pe)
  brui : w.cell? ⟨5, 15, none⟩ = some (.int .u8 4)
theorem keeps {w W : World} {p : Addr} {v : Value} (hb : Below w.heap.size w W) (h : w.cell? p = some v) : W.cell? p = some v := (hb.cell (p := p) (Lib.lt_of_cell h)).trans h
theorem Gl.below {w W : World} (h : Gl w) (hb : Below w.heap.size w W) : Gl W := by
  obtain ⟨t1, t2⟩ := h.tabs
  obtain ⟨m, hm⟩ := h.maxl
  obtain ⟨a, ha, ha2⟩ := h.esyn
  obtain ⟨b, hb1, hb2⟩ := h.eran
  have h5 := h.brui
  exact ⟨⟨fun c hc => keeps hb (t1 c hc), fun i hi => ⟨keeps hb (t2 i hi).1, keeps hb (t2 i hi).2⟩⟩, ⟨m, keeps hb hm⟩, ⟨a, keeps hb ha, ha2⟩, ⟨b, keeps hb hb1, hb2⟩, keeps hb h5⟩
theorem Gl.from {B : Nat} {w W : World} (h : Gl w) (hb : Below B w W) (hB : w.heap.size ≤ B) : Gl W := h.below (hb.mono hB)

/-- A list of bytes, as numbers. -/
def nn (l : List UInt8) : List Int := l.map fun c => (c.toNat : Int)
theorem bn_nn (s : ByteArray) : bn s = nn s.data.toList := rfl
theorem bn_arr (l : List UInt8) : bn ⟨l.toArray⟩ = nn l := by simp [bn, nn]
theorem nn_take (l : List UInt8) (k : Nat) : nn (l.take k) = (nn l).take k := by simp [nn]
theorem nn_drop (l : List UInt8) (k : Nat) : nn (l.drop k) = (nn l).drop k := by simp [nn]
theorem nn_inj : ∀ {a b : List UInt8}, nn a = nn b → a = b
  | [], [], _ => rfl
  | [], _ :: _, h => by simp [nn] at h
  | _ :: _, [], h => by simp [nn] at h
  | x :: a, y :: b, h => by
    simp only [nn, List.map_cons, List.cons.injEq] at h
    have e : x = y := UInt8.toNat_inj.1 (by omega)
    rw [nn_inj h.2, e]
theorem tw_all {p : Int → Bool} : ∀ {l : List Int}, (∀ x ∈ l, p x = true) → l.takeWhile p = l ∧ l.dropWhile p = []
  | [], _ => ⟨rfl, rfl⟩
  | x :: l, h => by
    have ih := tw_all (l := l) (fun y hy => h y (by simp [hy]))
    have hx := h x (by simp)
    exact ⟨by rw [List.takeWhile_cons, if_pos hx, ih.1], by rw [List.dropWhile_cons, if_pos hx, ih.2]⟩
def is (c : Int) (x : Int) : Bool := decide (x ≠ c)
theorem idx_one : ∀ (l : List UInt8) (c : UInt8), Lib.index l [c] = if (c.toNat : Int) ∈ nn l then (((nn l).takeWhile (is c.toNat)).length : Int) else -1
  | [], c => by simp [Lib.index, nn]
  | b :: l, c => by
    have ih := idx_one l c
    rw [Lib.index]
    by_cases h : b = c
    · subst h
      simp [nn, is]
    · have h1 : (List.isPrefixOf [c] (b :: l)) = false := by simp [List.isPrefixOf]; intro e; exact h e.symm
      have hne : ¬ (b.toNat : Int) = c.toNat := fun e => h (UInt8.toNat_inj.1 (by omega))
      rw [h1, ih]
      simp only [Bool.false_eq_true, if_false]
      have hm : ((c.toNat : Int) ∈ nn (b :: l)) ↔ ((c.toNat : Int) ∈ nn l) := by
        show (c.toNat : Int) ∈ (b.toNat : Int) :: nn l ↔ _
        rw [List.mem_cons]
        exact ⟨fun e => e.resolve_left (fun e => hne e.symm), .inr⟩
      have ht : (nn (b :: l)).takeWhile (is c.toNat) = (b.toNat : Int) :: (nn l).takeWhile (is c.toNat) := by
        show ((b.toNat : Int) :: nn l).takeWhile _ = _
        rw [List.takeWhile_cons, if_pos (by unfold is; simpa using hne)]
      by_cases hi : (c.toNat : Int) ∈ nn l
      · rw [if_pos hi, if_pos (hm.2 hi), ht, List.length_cons]
        rw [if_neg (by simp)]
        simp
      · rw [if_neg hi, if_neg (fun e => hi (hm.1 e))]; rfl
theorem cut_one (l : List UInt8) (c : UInt8) : nn (Lib.cut l [c]).1 = (nn l).takeWhile (is c.toNat) ∧ nn (Lib.cut l [c]).2.1 = ((nn l).dropWhile (is c.toNat)).drop 1 ∧ (Lib.cut l [c]).2.2 = decide ((c.toNat : Int) ∈ nn l) := by
  unfold Lib.cut
  rw [idx_one]
  by_cases h : (c.toNat : Int) ∈ nn l
  · rw [if_pos h, if_pos (by omega)]
    simp only [Int.toNat_natCast, List.length_singleton]
    obtain ⟨q, hq⟩ : ∃ q, q = (nn l).takeWhile (is c.toNat) := ⟨_, rfl⟩
    obtain ⟨r, hr⟩ : ∃ r, r = (nn l).dropWhile (is c.toNat) := ⟨_, rfl⟩
    have e : nn l = q ++ r := by rw [hq, hr]; exact (List.takeWhile_append_dropWhile).symm
    rw [← hq, ← hr]
    refine ⟨?_, ?_, by simp [h]⟩
    · rw [nn_take, e, List.take_left]
    · rw [nn_drop, e, List.drop_append, List.drop_eq_nil_of_le (by omega)]
      simp
  · rw [if_neg h, if_neg (by omega)]
    have hall : ∀ x ∈ nn l, is c.toNat x = true := fun x hx => by
      unfold is; simp only [decide_eq_true_eq]
      intro e; exact h (e ▸ hx)
    refine ⟨(tw_all hall).1.symm, ?_, by simp [h]⟩
    rw [(tw_all hall).2]; rfl
theorem val_D : ∀ (n : Nat) (l : List UInt8), l.length ≤ n → Lib.validGoD n l = val (nn l)
  | 0, l, h => by
    have : l = [] := List.length_eq_zero_iff.1 (by omega)
    subst this
    rfl
  | n + 1, l, h => by
    rw [Lib.validGoD]
    by_cases hl : l = []
    · subst hl; rfl
    rw [if_neg hl]
    have hs : 0 < (⟨l.toArray⟩ : ByteArray).size := by
      show 0 < l.toArray.size
      rw [List.size_toArray]
      exact List.length_pos_iff.2 hl
    have hd := dec_nx ⟨l.toArray⟩ 0 hs
    rw [List.drop_zero, bn_arr] at hd
    have hB : Bytes (nn l) := by rw [← bn_arr]; exact U.bn_bytes _
    have hne : nn l ≠ [] := by simpa [nn] using hl
    have hn := U.nx_n (nn l) hne
    rw [U.val_cons _ hne hB]
    show (if ((Utf8.decode ⟨l.toArray⟩ 0).1 = 65533 ∧ (Utf8.decode ⟨l.toArray⟩ 0).2 = 1) then false else Lib.validGoD n (l.drop (Utf8.decode ⟨l.toArray⟩ 0).2)) = _
    rw [hd.2]
    by_cases hw : (nx (nn l)).2.2 = true
    · rw [if_pos hw] at hd ⊢
      have hsg := nx_sign hB hne hw
      rw [if_neg (by rintro ⟨a, b⟩; exact hsg ⟨by omega, b⟩), hw, Bool.true_and]
      rw [val_D n _ (by rw [List.length_drop]; omega), nn_drop]
    · rw [if_neg hw] at hd ⊢
      rw [if_pos ⟨by omega, rfl⟩]
      simp [hw]
theorem enc_Z {r : Int} (h : scal r = true) : Lib.encodeRuneZ r = enc r := by
  rw [scal_iff] at h
  unfold Lib.encodeRuneZ enc
  by_cases h1 : r < 128
  · rw [if_pos (by omega), if_pos h1]
  rw [if_neg (by omega), if_neg h1]
  by_cases h2 : r < 2048
  · rw [if_pos (by omega), if_pos h2]
  rw [if_neg (by omega), if_neg h2]
  by_cases h3 : r < 65536
  · rw [if_pos (by omega), if_pos h3]
  rw [if_neg (by omega), if_pos (by omega), if_neg h3]
/-- Bytes as cells. -/
def cl (l : List Int) : List Value := l.map fun x => .int .u8 x
theorem cl_app (a b : List Int) : cl (a ++ b) = cl a ++ cl b := List.map_append
theorem cl_len (a : List Int) : (cl a).length = a.length := List.length_map ..
theorem cl_rune {r : Int} (h : scal r = true) : Lib.runeCells r = cl (enc r) := by unfold Lib.runeCells cl; rw [enc_Z h]
theorem cl_str (s : ByteArray) : Lib.strCells s = cl (bn s) := by
  unfold Lib.strCells cl bn
  simp
theorem cl_byte (l : List UInt8) : Lib.byteCells l = cl (nn l) := by
  unfold Lib.byteCells cl nn
  simp
end Go.Proofs.YtphkdagapoonjaaGreatDoor.Lx
