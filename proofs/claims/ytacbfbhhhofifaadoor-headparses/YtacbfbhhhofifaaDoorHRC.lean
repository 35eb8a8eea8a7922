/- Bytes of a text, written in place; the document's Small. (Stage 19.) -/
import Derived.Test.YtacbfbhhhofifaaDoorHRB
import Derived.Lib.ConvBytes
import Derived.Lib.BufferMore
import Derived.Laws.NewBlocks
namespace Go.Proofs.YtacbfbhhhofifaaDoor.Hd
open Go.RowKit
open Go.Proofs.YtacbfbhhhofifaaDoor.F (bn bn_length bn_append bn_inj bn_get byte_bd hid bn_extract isEmpty_false isEmpty_true str_eq same_eq)
set_option linter.unusedVariables false

/-- Bytes at the beginning of a block, that may be written. -/
def Rw (W : World) (g : Nat) (l : List Int) : Prop := ∃ (C : Array Value) (T : TypeId) (fz : Nat × Nat), W.heap[g]? = some (.cells C T fz) ∧ (∀ j, j < l.length → C[j]? = some (.int .u8 (l[j]?.getD 0))) ∧ l.length ≤ fz.1
theorem Rw.cell {W : World} {g : Nat} {l : List Int} (h : Rw W g l) {j : Nat} (hj : j < l.length) : W.cell? ⟨g, j, none⟩ = some (.int .u8 (l[j]?.getD 0)) := by
  obtain ⟨C, T, fz, h1, h2, h3⟩ := h
  rw [cell_of_row W g j C T fz h1, h2 j hj]
theorem Rw.free {W : World} {g : Nat} {l : List Int} (h : Rw W g l) {j : Nat} (hj : j < l.length) : W.frozen? ⟨g, j, none⟩ = false := by
  obtain ⟨C, T, fz, h1, h2, h3⟩ := h
  simp only [World.frozen?, h1]
  have : ¬ fz.1 ≤ j := by omega
  simp [this]
theorem Rw.set {W : World} {g : Nat} {l : List Int} (h : Rw W g l) {j : Nat} (hj : j < l.length) (v : Int) : Rw (W.setCell ⟨g, j, none⟩ (.int .u8 v)) g (l.set j v) := by
  obtain ⟨C, T, fz, h1, h2, h3⟩ := h
  refine ⟨_, T, fz, Lib.heap_setCell_same h1 _, fun i hi => ?_, by rw [List.length_set]; exact h3⟩
  rw [List.length_set] at hi
  have hjs : j < C.size := by
    have := h2 j hj
    rcases Nat.lt_or_ge j C.size with q | q
    · exact q
    · rw [Array.getElem?_eq_none q] at this; cases this
  by_cases e : j = i
  · subst e
    rw [Array.getElem?_setIfInBounds_self_of_lt hjs, List.getElem?_set_self hj]; rfl
  · rw [Array.getElem?_setIfInBounds_ne e, List.getElem?_set_ne e]
    exact h2 i hi
theorem Rw.of_text (w : World) (e : TypeId) (s : ByteArray) (hs : s.size ≤ 1000000) : Rw (Lib.bytesWorld w e s) w.heap.size (bn s) := by
  have hsz : s.size ≤ (Lib.bytesCells w e s).size := by
    have : s.data.size = s.size := rfl
    simp [Lib.bytesCells]
  refine ⟨_, _, _, Lib.bytesWorld_at_new w e s, fun j hj => ?_, by rw [bn_length]; exact hsz⟩
  rw [bn_length] at hj
  have : s.data.size = s.size := rfl
  unfold bn
  rw [List.getElem?_map]
  have hl : j < s.data.toList.length := by simpa using hj
  rw [List.getElem?_eq_getElem hl]
  simp [Lib.bytesCells, Array.getElem?_append, hj]
theorem addr_plus (g i j : Nat) : (⟨g, i, none⟩ : Addr).add j = ⟨g, i + j, none⟩ := by unfold Addr.add; split <;> simp_all
/-- Bytes that lie somewhere, as a text. -/
theorem Rw.text {W : World} {g c : Nat} {l : List Int} (h : Rw W g l) (hb : ∀ x ∈ l, 0 ≤ x ∧ x ≤ 255) {n : Nat} (hn : n = l.length) : ∃ t : ByteArray, (convert 38 9 (.slice (some ⟨g, 0, none⟩) n c)).run Tryd.prog W = .ok (.string t) W ∧ bn t = l := by
  subst hn
  refine ⟨⟨(l.map fun n => UInt8.ofNat n.toNat).toArray⟩, ?_, ?_⟩
  · have := run_convert_bytes_back (P := Tryd.prog) W 38 9 5 ⟨g, 0, none⟩ c (l.map fun n => UInt8.ofNat n.toNat) Tryd.underlying38 Tryd.underlying5 Tryd.underlying9 (by
      intro j hj
      have hj' : j < l.length := by simpa using hj
      have hbj := hb l[j] (List.getElem_mem hj')
      rw [addr_plus, Nat.zero_add, h.cell hj', List.getElem?_eq_getElem hj']
      simp only [Option.getD_some, List.getElem_map, UInt8.toNat_ofNat']
      congr 2
      omega)
    rw [List.length_map] at this
    exact this
  · unfold bn
    simp only
    rw [List.map_map]
    conv => rhs; rw [← List.map_id l]
    apply List.map_congr_left
    intro x hx
    have := hb x hx
    simp; omega
/-- Letters made small as far as here. -/
def up (c : Int) : Int := if 65 ≤ c ∧ c ≤ 90 then c + 32 else c
def mix (l : List Int) (k : Nat) : List Int := sml (l.take k) ++ l.drop k
theorem sml_up (l : List Int) : sml l = l.map up := rfl
theorem mix_len (l : List Int) (k : Nat) : (mix l k).length = l.length := by
  unfold mix sml; simp; omega
theorem mix_get (l : List Int) (k : Nat) (hk : k < l.length) : (mix l k)[k]?.getD 0 = l[k]?.getD 0 := by
  unfold mix sml
  rw [List.getElem?_append_right (by simp; omega)]
  simp
  congr 2
  omega
theorem mix_step (l : List Int) (k : Nat) (hk : k < l.length) : mix l (k + 1) = (mix l k).set k (up (l[k]?.getD 0)) := by
  unfold mix
  rw [sml_up, sml_up, F.take_one l k hk, List.map_append, List.set_append_right _ _ (by simp; omega)]
  have e : k - (List.map up (List.take k l)).length = 0 := by simp; omega
  rw [e, List.drop_eq_getElem_cons hk, List.set_cons_zero, List.append_assoc]
  congr 1
theorem mix_skip (l : List Int) (k : Nat) (hk : k < l.length) (h : up (l[k]?.getD 0) = l[k]?.getD 0) : mix l (k + 1) = mix l k := by
  rw [mix_step l k hk, h]
  have hm : k < (mix l k).length := by rw [mix_len]; exact hk
  have := mix_get l k hk
  rw [List.getElem?_eq_getElem hm] at this
  rw [← this]
  simp
theorem mix_end (l : List Int) : mix l l.length = sml l := by unfold mix; simp
theorem up_bd {c : Int} (h : 0 ≤ c ∧ c ≤ 255) : 0 ≤ up c ∧ up c ≤ 255 := by unfold up; split <;> omega
theorem sml_bd {l : List Int} (h : ∀ x ∈ l, 0 ≤ x ∧ x ≤ 255) : ∀ x ∈ sml l, 0 ≤ x ∧ x ≤ 255 := by
  rw [sml_up]
  intro x hx
  obtain ⟨y, hy, rfl⟩ := List.mem_map.1 hx
  exact up_bd (h y hy)
theorem bn_bd (s : ByteArray) : ∀ x ∈ bn s, 0 ≤ x ∧ x ≤ 255 := by
  intro x hx
  obtain ⟨y, hy, rfl⟩ := List.mem_map.1 hx
  have := y.toNat_lt
  omega
set_option maxRecDepth 100000 in
set_option maxHeartbeats 4000000 in
theorem rsmall_any (s : ByteArray) (hs : s.size ≤ 1000000) (w : World) : Calls Tryd.prog 28 #[.string s] w fun e W' => (∃ t : ByteArray, bn t = sml (bn s) ∧ e = .returned (.string t)) ∧ Below w.heap.size w W' := by
  have hcv := Lib.run_convert_string_bytes (P := Tryd.prog) w 9 38 5 s Tryd.underlying9 Tryd.underlying38 Tryd.underlying5
  have HR0 := hid (Rw.of_text w 5 s hs)
  have HB0 : Hid (Below w.heap.size w (Lib.bytesWorld w 5 s)) := ⟨rfl, rfl, rfl, by rw [Lib.bytesWorld_size]; omega, fun k hk => Lib.bytesWorld_at_old w _ s k hk⟩
  obtain ⟨g, hg⟩ : ∃ g, w.heap.size = g := ⟨_, rfl⟩
  have HG := hid hg
  rw [hg] at hcv HR0 HB0 ⊢
  obtain ⟨W0, hW⟩ : ∃ W0, Lib.bytesWorld w 5 s = W0 := ⟨_, rfl⟩
  rw [hW] at hcv HR0 HB0
  obtain ⟨c, hc⟩ : ∃ c, grownCap w s.size 0 5 = c := ⟨_, rfl⟩
  rw [hc] at hcv
  clear hg hW hc
  have HL := hid (bn_length s)
  go_enter Tryd.func28, Tryd.ntmps28
  go_wp2_with fail
  go_loopw [4] (fun v4 wr => ∃ i : Nat, i ≤ s.size ∧ v4 = .int .i64 (i : Int) ∧ Rw wr g (mix (bn s) i) ∧ Below g w wr) (fun v4 _ => s.size - (intOf v4).toNat)
  case atStart => exact ⟨0, Nat.zero_le _, rfl, by have h := HR0.out; unfold mix; simpa [sml] using h, HB0.out⟩
  case round =>
    obtain ⟨i, hi, rfl, hR, hB⟩ := hrel
    have HR := hid hR
    have HB := hid hB
    clear hR hB
    by_cases hlt : i < s.size
    · have hltz : (i : Int) < (s.size : Int) := by omega
      have hil : i < (mix (bn s) i).length := by rw [mix_len, HL.out]; exact hlt
      have hcell := HR.out.cell hil
      have hfree := HR.out.free hil
      rw [mix_get _ _ (by rw [HL.out]; exact hlt)] at hcell
      obtain ⟨q0, q1⟩ := byte_bd hlt
      have HST := hid (HR.out.set hil)
      have HMS := hid (mix_step (bn s) i (by rw [HL.out]; exact hlt))
      have HMK := hid (mix_skip (bn s) i (by rw [HL.out]; exact hlt))
      clear hil
      obtain ⟨y, hy⟩ : ∃ y, (bn s)[i]?.getD 0 = y := ⟨_, rfl⟩
      rw [hy] at hcell q0 q1 HMS HMK
      clear hy
      by_cases h1 : 65 ≤ y
      · by_cases h2 : y ≤ 90
        · have HU : Hid (up y = y + 32) := by show _ = _; unfold up; rw [if_pos ⟨h1, h2⟩]
          go_wp2
          go_roundw
          case rel => exact ⟨i + 1, by omega, by go_num, by rw [HMS.out, HU.out]; exact HST.out (y + 32), HB.out.setCell (Nat.le_refl _) _⟩
          case measure => simp [intOf]; omega
        · have HU : Hid (up y = y) := by show _ = _; unfold up; rw [if_neg (fun h => h2 h.2)]
          go_wp2
          go_roundw
          case rel => exact ⟨i + 1, by omega, by go_num, by rw [HMK.out HU.out]; exact HR.out, HB.out⟩
          case measure => simp [intOf]; omega
      · have HU : Hid (up y = y) := by show _ = _; unfold up; rw [if_neg (fun h => h1 h.1)]
        go_wp2
        go_roundw
        case rel => exact ⟨i + 1, by omega, by go_num, by rw [HMK.out HU.out]; exact HR.out, HB.out⟩
        case measure => simp [intOf]; omega
    · have hltz : ¬ (i : Int) < (s.size : Int) := by omega
      obtain rfl : i = s.size := by omega
      have hR2 := HR.out
      rw [← HL.out, mix_end] at hR2
      obtain ⟨t, ht, htb⟩ := hR2.text (c := c) (sml_bd (bn_bd s)) (n := s.size) (by rw [← HL.out, sml_up, List.length_map])
      have HT := hid htb
      clear hR2 htb HR
      go_wp2
      go_ret
      exact ⟨⟨t, HT.out, rfl⟩, HB.out⟩
end Go.Proofs.YtacbfbhhhofifaaDoor.Hd
