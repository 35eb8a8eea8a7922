/- internal/strconv.ParseUint at base 16, of one to four bytes; strconv.ParseUint there, and at base 10 of 8 bits by the shelf. (Stage 11.) -/
import Derived.Test.YtpkmpebhlolhaaaDoorXA
import Derived.Test.YtpkmpebhlolhaaaDoorFO
import Derived.Test.YtpkmpebhlolhaaaDoorProg
import Derived.Test.YtpkmpebhlolhaaaDoorChecked
import Derived.Shelf.Lay
import Derived.Shelf.Pu.ParseUintPublic10
import Derived.Ground.MpProg
import Derived.Laws.BitsAllLaws
import Derived.Lib.ConvBytes
namespace Go.Proofs
open Go.Shelf Go.RowKit
shelf_lay LaysPu.n14 Mp 14 at Tryd as Tryd.laysPu
end Go.Proofs
namespace Go.Proofs.YtpkmpebhlolhaaaDoor.X
open Go.RowKit
open Go.Proofs.YtpkmpebhlolhaaaDoor.F (hx hx_bd vl vl_snoc bn bn_length bn_append bn_inj bn_get byte_bd hid bn_extract isEmpty_false isEmpty_true str_eq same_eq)
set_option linter.unusedVariables false

theorem low_fin : ∀ c : Fin 256, (65 ≤ c.val ∧ c.val ≤ 70 → c.val ||| 32 = c.val + 32) ∧ (97 ≤ c.val ∧ c.val ≤ 102 → c.val ||| 32 = c.val) ∧ (97 ≤ c.val ||| 32 ∧ c.val ||| 32 ≤ 102 → (97 ≤ c.val ∧ c.val ≤ 102) ∨ (65 ≤ c.val ∧ c.val ≤ 70)) ∧ c.val ||| 32 ≤ 255 := by decide +kernel
theorem low_cases (c : Int) (h0 : 0 ≤ c) (h1 : c ≤ 255) : ∃ d : Int, bits .or .u8 c 32 = d ∧ 0 ≤ d ∧ d ≤ 255 ∧ (65 ≤ c ∧ c ≤ 70 → d = c + 32) ∧ (97 ≤ c ∧ c ≤ 102 → d = c) ∧ (97 ≤ d ∧ d ≤ 102 → (97 ≤ c ∧ c ≤ 102) ∨ (65 ≤ c ∧ c ≤ 70)) := by
  obtain ⟨n, rfl⟩ : ∃ n : Nat, c = (n : Int) := ⟨c.toNat, by omega⟩
  have h := low_fin ⟨n, by omega⟩
  simp only at h
  refine ⟨((n ||| 32 : Nat) : Int), u8_or_nat n 32 (by omega) (by omega), by omega, by omega, fun q => ?_, fun q => ?_, fun q => ?_⟩
  · have := h.1 (by omega); omega
  · have := h.2.1 (by omega); omega
  · have := h.2.2.1 (by omega); omega
theorem low_any (c d : Int) (h : bits .or .u8 c 32 = d) (w : World) : Calls Tryd.prog 64 #[.int .u8 c] w fun e w' => e = .returned (.int .u8 d) ∧ w' = w := by
  subst h
  go_enter Tryd.func64, Tryd.ntmps64
  go_wp2
  go_ret
  exact ⟨rfl, rfl⟩
/-- What is read of digits by sixteen. -/
def uT (l : List Int) : Value := if l.all hxd = true then .tuple #[.int .u64 (vl 16 l), .nilIface] else .tuple #[.int .u64 0, .iface 96 (.int .i64 2)]
def sz16 (k a : Nat) : Prop := (k = 0 ∧ a ≤ 0) ∨ (k = 1 ∧ a ≤ 15) ∨ (k = 2 ∧ a ≤ 255) ∨ (k = 3 ∧ a ≤ 4095) ∨ (k = 4 ∧ a ≤ 65535)
theorem sz16_step {k a d : Nat} (h : sz16 k a) (hk : k < 4) (hd : d ≤ 15) : sz16 (k + 1) (a * 16 + d) ∧ a ≤ 4095 := by
  unfold sz16 at *
  omega
theorem take_byte (l : List Int) (k : Nat) (h : k < l.length) : l.take (k + 1) = l.take k ++ [l[k]?.getD 0] := by
  rw [List.take_add_one, List.getElem?_eq_getElem h]; rfl
/-- Digits so far. -/
def Dg16 (l : List Int) (k acc : Nat) : Prop := (l.take k).all hxd = true ∧ vl 16 (l.take k) = acc
theorem Dg16.step {l : List Int} {k acc : Nat} {c : Int} (h : Dg16 l k acc) (hk : k < l.length) (hc : l[k]?.getD 0 = c) (hx0 : 0 ≤ hx c) : Dg16 l (k + 1) (acc * 16 + (hx c).toNat) := by
  unfold Dg16 at *
  rw [take_byte l k hk, hc, vl_snoc, List.all_append, h.1, h.2]
  refine ⟨?_, rfl⟩
  simp [hxd, hx0]
theorem Dg16.bad {l : List Int} {k acc : Nat} {c : Int} (h : Dg16 l k acc) (hk : k < l.length) (hc : l[k]?.getD 0 = c) (hx0 : ¬ 0 ≤ hx c) : uT l = .tuple #[.int .u64 0, .iface 96 (.int .i64 2)] := by
  unfold uT
  rw [if_neg]
  intro ha
  rw [List.all_eq_true] at ha
  have hm : c ∈ l := by
    rw [List.getElem?_eq_getElem hk] at hc
    exact hc ▸ List.getElem_mem hk
  have := ha c hm
  unfold hxd at this
  exact hx0 (of_decide_eq_true this)
theorem Dg16.all {l : List Int} {acc : Nat} (h : Dg16 l l.length acc) : uT l = .tuple #[.int .u64 acc, .nilIface] := by
  unfold Dg16 at h
  rw [List.take_length] at h
  unfold uT
  rw [if_pos h.1, h.2]
theorem hx_digit {c : Int} (h : 48 ≤ c ∧ c ≤ 57) : hx c = c - 48 := by unfold hx; rw [if_pos h]
theorem hx_small {c : Int} (h : 97 ≤ c ∧ c ≤ 102) : hx c = c - 87 := by unfold hx; rw [if_neg (by omega), if_pos h]
theorem hx_capital {c : Int} (h : 65 ≤ c ∧ c ≤ 70) : hx c = c - 55 := by unfold hx; rw [if_neg (by omega), if_neg (by omega), if_pos h]
theorem hx_none {c : Int} (h1 : ¬ (48 ≤ c ∧ c ≤ 57)) (h2 : ¬ (97 ≤ c ∧ c ≤ 102)) (h3 : ¬ (65 ≤ c ∧ c ≤ 70)) : ¬ 0 ≤ hx c := by unfold hx; rw [if_neg h1, if_neg h2, if_neg h3]; decide
set_option maxHeartbeats 16000000 in
set_option maxRecDepth 100000 in
theorem par16_any (t : ByteArray) (hne : t.size ≠ 0) (h4 : t.size ≤ 4) (w : World) :
    Calls Tryd.prog 52 #[.string t, .int .i64 16, .int .i64 16] w fun e w' => e = .returned (uT (bn t)) ∧ Below w.heap.size w w' := by
  have hemp := isEmpty_false t (by omega)
  have hcv := Lib.run_convert_string_bytes (P := Tryd.prog) w 9 50 5 t (u := .string) Tryd.underlying9 Tryd.underlying50 Tryd.underlying5
  have hB : ∀ j, j < t.size → (Lib.bytesWorld w 5 t).cell? ⟨w.heap.size, j, none⟩ = some (.int .u8 ((bn t)[j]?.getD 0)) := fun j hj => by
    rw [Lib.bytesWorld_cell w 5 t j hj, bn_get t j hj]
    congr 2
    have h5 : j < t.data.size := hj
    simp only [List.getD, Array.getElem?_toList, Array.getElem?_eq_getElem h5, Option.getD_some]
    rfl
  have hBel : Below w.heap.size w (Lib.bytesWorld w 5 t) := ⟨rfl, rfl, rfl, by rw [Lib.bytesWorld_size]; omega, fun k hk => Lib.bytesWorld_at_old w 5 t k hk⟩
  obtain ⟨W1, hW1⟩ : ∃ W1, W1 = Lib.bytesWorld w 5 t := ⟨_, rfl⟩
  rw [← hW1] at hcv hB hBel
  clear hW1
  have hmv : IntKind.u64.wrap (IntKind.u64.wrap 65536 - 1) = 65535 := by
    rw [IntKind.wrap_u64, IntKind.wrap_u64]
    decide
  have hbl := bn_length t
  have HBL := hid hBel
  have HLN := hid hbl
  clear hBel hbl
  go_enter Tryd.func52, Tryd.ntmps52
  go_wp2
  go_loop [12, 13, 101] (fun vu vn vi => ∃ (k acc : Nat) (a : Int), vu = .bool false ∧ vn = .int .u64 a ∧ vi = .int .i64 k ∧ k ≤ t.size ∧ Hid (a = (acc : Int) ∧ sz16 k acc ∧ Dg16 (bn t) k acc))
    (fun _ _ vi => t.size - (intOf vi).toNat)
  case atStart => exact ⟨0, 0, 0, rfl, rfl, rfl, by omega, rfl, .inl ⟨rfl, by omega⟩, by unfold Dg16; exact ⟨rfl, rfl⟩⟩
  case round =>
    obtain ⟨k, acc, a, rfl, rfl, rfl, hk, hh⟩ := hrel
    obtain ⟨ha, hsz, hdig⟩ := hh.out
    clear hh
    by_cases hkn : k < t.size
    · have hc := hB k hkn
      have hcb := byte_bd hkn
      have hkl : k < (bn t).length := by rw [HLN.out]; exact hkn
      obtain ⟨c, hcc⟩ : ∃ c, (bn t)[k]?.getD 0 = c := ⟨_, rfl⟩
      rw [hcc] at hc hcb
      obtain ⟨c0, c1⟩ := hcb
      have hst := fun (d : Nat) (hd : d ≤ 15) => sz16_step (d := d) hsz (by omega) hd
      have a1 : a ≤ 4095 := by have := (hst 0 (by omega)).2; omega
      have a0 : 0 ≤ a := by omega
      by_cases hd : 48 ≤ c ∧ c ≤ 57
      · have hxc := hx_digit hd
        have hN := hdig.step hkl hcc (by omega)
        have HN : Hid (a * 16 + (c - 48) = ((acc * 16 + (hx c).toNat : Nat) : Int) ∧ sz16 (k + 1) (acc * 16 + (hx c).toNat) ∧ Dg16 (bn t) (k + 1) (acc * 16 + (hx c).toNat)) := hid ⟨by omega, (hst _ (by omega)).1, hN⟩
        obtain ⟨d0, d1⟩ := hd
        have iov : a * 16 + (c - 48) ≤ 65535 := by omega
        clear hN hxc hst hdig hsz ha hcc hkl hB
        go_wp2
        refine ⟨⟨k + 1, _, a * 16 + (c - 48), rfl, (by first | rfl | (congr 1; omega)), (by first | rfl | (congr 1; omega)), by omega, HN⟩, by simp [intOf]; omega⟩
      · obtain ⟨d, hor, e0, e1, l1, l2, l3⟩ := low_cases c c0 c1
        by_cases hl : 97 ≤ d ∧ d ≤ 102
        · have hxc : hx c = d - 87 := by
            rcases l3 hl with q | q
            · rw [hx_small q, l2 q]
            · rw [hx_capital q, l1 q]; omega
          have hN := hdig.step hkl hcc (by omega)
          have HN : Hid (a * 16 + (d - 97 + 10) = ((acc * 16 + (hx c).toNat : Nat) : Int) ∧ sz16 (k + 1) (acc * 16 + (hx c).toNat) ∧ Dg16 (bn t) (k + 1) (acc * 16 + (hx c).toNat)) := hid ⟨by omega, (hst _ (by omega)).1, hN⟩
          obtain ⟨d0, d1⟩ := hl
          have iov : a * 16 + (d - 97 + 10) ≤ 65535 := by omega
          have hnu : c ≠ 95 := by
            intro e
            rcases l3 ⟨d0, d1⟩ with q | q <;> omega
          have hnd : c < 48 ∨ 57 < c := by omega
          have HOR := hid hor
          clear hN hxc hst hdig hsz ha hcc hkl hB l1 l2 l3 hor hd
          rcases hnd with hnd | hnd
          all_goals
            go_wp2_with (go_at_call 64; refine (low_any c d HOR.out _).mono ?_; rintro e w' ⟨rfl, rfl⟩)
            refine ⟨⟨k + 1, _, a * 16 + (d - 97 + 10), rfl, (by first | rfl | (congr 1; omega)), (by first | rfl | (congr 1; omega)), by omega, HN⟩, by simp [intOf]; omega⟩
        · have hbad := hdig.bad hkl hcc (hx_none hd (fun q => hl (by rw [l2 q]; exact q)) (fun q => hl (by rw [l1 q]; omega)))
          have HBAD := hid hbad
          have HOR := hid hor
          have hnd : c < 48 ∨ 57 < c := by omega
          have hnl : d < 97 ∨ 102 < d := by omega
          clear hbad hst hdig hsz ha hcc hkl hB l1 l2 l3 hor hd hl
          by_cases h95 : c = 95
          · subst h95
            rcases hnl with hnl | hnl
            all_goals
              go_wp2_with (go_at_call 64; refine (low_any 95 d HOR.out _).mono ?_; rintro e w' ⟨rfl, rfl⟩)
              all_goals go_ret2
              all_goals exact ⟨by rw [HBAD.out] <;> rfl, HBL.out⟩
          · rcases hnd with hnd | hnd <;> rcases hnl with hnl | hnl
            all_goals
              go_wp2_with (go_at_call 64; refine (low_any c d HOR.out _).mono ?_; rintro e w' ⟨rfl, rfl⟩)
              all_goals go_ret2
              all_goals exact ⟨by rw [HBAD.out] <;> rfl, HBL.out⟩
    · have hkk : k = t.size := by omega
      subst hkk
      have hfin := Dg16.all (l := bn t) (acc := acc) (by rw [HLN.out]; exact hdig)
      have HFIN := hid hfin
      subst ha
      have a1 : acc ≤ 65535 := by unfold sz16 at hsz; omega
      clear hfin hdig hsz hB
      go_wp2
      go_ret2
      exact ⟨by rw [HFIN.out] <;> rfl, HBL.out⟩
set_option maxHeartbeats 4000000 in
set_option maxRecDepth 100000 in
theorem par16_empty (w : World) : Calls Tryd.prog 52 #[.string ⟨#[]⟩, .int .i64 16, .int .i64 16] w fun e w' => e = .returned (.tuple #[.int .u64 0, .iface 96 (.int .i64 2)]) ∧ w' = w := by
  go_enter Tryd.func52, Tryd.ntmps52
  go_wp2
  go_ret2
  exact ⟨rfl, rfl⟩
end Go.Proofs.YtpkmpebhlolhaaaDoor.X
