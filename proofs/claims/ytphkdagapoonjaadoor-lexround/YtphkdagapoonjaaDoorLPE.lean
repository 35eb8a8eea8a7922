/- internal/strconv.ParseUint at base 16 of 31 bits, of any text; strconv.ParseUint there; lex.scalar. (Stage 15.) -/
import Derived.Test.YtphkdagapoonjaaDoorLPC
import Derived.Laws.BitsAllLaws
import Derived.Lib.ConvBytes
import Derived.RegionTactic
import Derived.Lib.IfaceEq
import Derived.BigQuiet
namespace Go.Proofs.YtphkdagapoonjaaDoor.Lx
open Go.RowKit
open Go.Proofs.YtphkdagapoonjaaDoor.F (bn bn_length bn_append bn_inj bn_get byte_bd hid bn_extract isEmpty_false isEmpty_true str_eq same_eq)
open Go.Proofs.YtphkdagapoonjaaDoor.U (nx enc encs scal val Bytes)
set_option linter.unusedVariables false

theorem low_fin : ∀ c : Fin 256, (65 ≤ c.val ∧ c.val ≤ 70 → c.val ||| 32 = c.val + 32) ∧ (97 ≤ c.val ∧ c.val ≤ 102 → c.val ||| 32 = c.val) ∧ (97 ≤ c.val ||| 32 ∧ c.val ||| 32 ≤ 102 → (97 ≤ c.val ∧ c.val ≤ 102) ∨ (65 ≤ c.val ∧ c.val ≤ 70)) ∧ c.val ||| 32 ≤ 255 := by decide +kernel
theorem low_cases (c : Int) (h0 : 0 ≤ c) (h1 : c ≤ 255) : ∃ d : Int, bits .or .u8 c 32 = d ∧ 0 ≤ d ∧ d ≤ 255 ∧ (65 ≤ c ∧ c ≤ 70 → d = c + 32) ∧ (97 ≤ c ∧ c ≤ 102 → d = c) ∧ (97 ≤ d ∧ d ≤ 102 → (97 ≤ c ∧ c ≤ 102) ∨ (65 ≤ c ∧ c ≤ 70)) := by
  obtain ⟨n, rfl⟩ : ∃ n : Nat, c = (n : Int) := ⟨c.toNat, by omega⟩
  have h := low_fin ⟨n, by omega⟩
  simp only at h
  refine ⟨((n ||| 32 : Nat) : Int), u8_or_nat n 32 (by omega) (by omega), by omega, by omega, fun q => ?_, fun q => ?_, fun q => ?_⟩
  · have := h.1 (by omega); omega
  · have := h.2.1 (by omega); omega
  · have := h.2.2.1 (by omega); omega
theorem low_any (c d : Int) (h : bits .or .u8 c 32 = d) (w : World) : Calls Tryd.prog 85 #[.int .u8 c] w fun e w' => e = .returned (.int .u8 d) ∧ w' = w := by
  subst h
  go_enter Tryd.func85, Tryd.ntmps85
  go_wp2
  go_ret
  exact ⟨rfl, rfl⟩
abbrev top31 : Int := 2147483647
def AllD (l : List Int) : Prop := ∀ c ∈ l, isd c = true
/-- What is read of digits by sixteen: a number, or an error. -/
def IpR (l : List Int) (e : Ending) : Prop :=
  (AllD l ∧ hv l ≤ top31 ∧ 0 ≤ hv l ∧ e = .returned (.tuple #[.int .u64 (hv l), .nilIface])) ∨
  (¬ AllD l ∧ e = .returned (.tuple #[.int .u64 0, .iface 119 (.int .i64 2)])) ∨
  ((¬ AllD l ∨ top31 < hv l) ∧ e = .returned (.tuple #[.int .u64 2147483647, .iface 119 (.int .i64 1)]))
theorem take_one' (l : List Int) (k : Nat) (h : k < l.length) : l.take (k + 1) = l.take k ++ [l[k]?.getD 0] := by
  rw [List.take_add_one, List.getElem?_eq_getElem h]; rfl
theorem hv_one (l : List Int) (c : Int) : hv (l ++ [c]) = 16 * hv l + dg c := by unfold hv; rw [List.foldl_append]; rfl
/-- Digits so far. -/
def Dg (l : List Int) (k : Nat) (a : Int) : Prop := AllD (l.take k) ∧ hv (l.take k) = a
theorem Dg.step {l : List Int} {k : Nat} {a c : Int} (h : Dg l k a) (hk : k < l.length) (hc : l[k]?.getD 0 = c) (hx : 0 ≤ dg c) : Dg l (k + 1) (a * 16 + dg c) := by
  unfold Dg at *
  rw [take_one' l k hk, hc, hv_one, h.2]
  refine ⟨fun x hm => ?_, by omega⟩
  rw [List.mem_append, List.mem_singleton] at hm
  rcases hm with hm | rfl
  · exact h.1 x hm
  · unfold isd; exact decide_eq_true hx
theorem Dg.bad {l : List Int} {k : Nat} {c : Int} (hk : k < l.length) (hc : l[k]?.getD 0 = c) (hx : ¬ 0 ≤ dg c) : ¬ AllD l := by
  intro ha
  rw [List.getElem?_eq_getElem hk] at hc
  have := ha c (hc ▸ List.getElem_mem hk)
  unfold isd at this
  exact hx (of_decide_eq_true this)
theorem fold_up : ∀ (l : List Int) (a : Int), AllD l → 0 ≤ a → a ≤ l.foldl (fun n c => 16 * n + dg c) a
  | [], a, _, h => Int.le_refl _
  | c :: l, a, hd, h => by
    have hc : 0 ≤ dg c := of_decide_eq_true (hd c (by simp))
    have := fold_up l (16 * a + dg c) (fun x hx => hd x (by simp [hx])) (by omega)
    rw [List.foldl_cons]
    omega
theorem hv_up {l : List Int} {k : Nat} (h : AllD l) (h0 : 0 ≤ hv (l.take k)) : hv (l.take k) ≤ hv l := by
  have e : hv l = (l.drop k).foldl (fun n c => 16 * n + dg c) (hv (l.take k)) := by
    unfold hv
    rw [← List.foldl_append, List.take_append_drop]
  rw [e]
  exact fold_up _ _ (fun x hx => h x (List.mem_of_mem_drop hx)) h0
theorem Dg.over {l : List Int} {k : Nat} {a : Int} (h : Dg l k a) (h0 : top31 < a) : ¬ AllD l ∨ top31 < hv l := by
  by_cases hd : AllD l
  · have := hv_up (k := k) hd (by rw [h.2]; unfold top31 at h0; omega)
    rw [h.2] at this
    exact .inr (by unfold top31 at *; omega)
  · exact .inl hd
theorem Dg.all {l : List Int} {a : Int} (h : Dg l l.length a) : AllD l ∧ hv l = a := by
  unfold Dg at h
  rwa [List.take_length] at h
theorem dg_digit {c : Int} (h : 48 ≤ c ∧ c ≤ 57) : dg c = c - 48 := by unfold dg; rw [if_pos h]
theorem dg_small {c : Int} (h : 97 ≤ c ∧ c ≤ 102) : dg c = c - 87 := by unfold dg; rw [if_neg (by omega), if_pos h]
theorem dg_capital {c : Int} (h : 65 ≤ c ∧ c ≤ 70) : dg c = c - 55 := by unfold dg; rw [if_neg (by omega), if_neg (by omega), if_pos h]
theorem dg_none {c : Int} (h1 : ¬ (48 ≤ c ∧ c ≤ 57)) (h2 : ¬ (97 ≤ c ∧ c ≤ 102)) (h3 : ¬ (65 ≤ c ∧ c ≤ 70)) : ¬ 0 ≤ dg c := by unfold dg; rw [if_neg h1, if_neg h2, if_neg h3]; decide
set_option maxHeartbeats 16000000 in
set_option maxRecDepth 100000 in
theorem par_some (t : ByteArray) (hne : t.size ≠ 0) (hs : t.size ≤ 1000000) (w : World) :
    Calls Tryd.prog 81 #[.string t, .int .i64 16, .int .i64 31] w fun e w' => IpR (bn t) e ∧ Below w.heap.size w w' := by
  have hemp := isEmpty_false t (by omega)
  have hcv := Lib.run_convert_string_bytes (P := Tryd.prog) w 9 38 5 t (u := .string) Tryd.underlying9 Tryd.underlying38 Tryd.underlying5
  have hB : ∀ j, j < t.size → (Lib.bytesWorld w 5 t).cell? ⟨w.heap.size, j, none⟩ = some (.int .u8 ((bn t)[j]?.getD 0)) := fun j hj => by
    rw [Lib.bytesWorld_cell w 5 t j hj, bn_get t j hj]
    congr 2
    have h5 : j < t.data.size := hj
    simp only [List.getD, Array.getElem?_toList, Array.getElem?_eq_getElem h5, Option.getD_some]
    rfl
  have hBel : Below w.heap.size w (Lib.bytesWorld w 5 t) := ⟨rfl, rfl, rfl, by rw [Lib.bytesWorld_size]; omega, fun k hk => Lib.bytesWorld_at_old w 5 t k hk⟩
  obtain ⟨W1, hW1⟩ : ∃ W1, W1 = Lib.bytesWorld w 5 t := ⟨_, rfl⟩
  rw [← hW1] at hcv hB hBel
  clear hW1
  have hmv : IntKind.u64.wrap (IntKind.u64.wrap 2147483648 - 1) = 2147483647 := by
    rw [IntKind.wrap_u64, IntKind.wrap_u64]
    decide
  have hbl := bn_length t
  have HBL := hid hBel
  have HLN := hid hbl
  clear hBel hbl
  go_enter Tryd.func81, Tryd.ntmps81
  go_wp2
  go_loop [12, 13, 101] (fun vu vn vi => ∃ (k : Nat) (a : Int), vu = .bool false ∧ vn = .int .u64 a ∧ vi = .int .i64 k ∧ k ≤ t.size ∧ 0 ≤ a ∧ a ≤ 2147483647 ∧ Hid (Dg (bn t) k a))
    (fun _ _ vi => t.size - (intOf vi).toNat)
  case atStart => exact ⟨0, 0, rfl, rfl, rfl, by omega, by omega, by omega, fun c hc => (by simp at hc), rfl⟩
  case round =>
    obtain ⟨k, a, rfl, rfl, rfl, hk, a0, a1, hdg⟩ := hrel
    by_cases hkn : k < t.size
    · have hc := hB k hkn
      have hcb := byte_bd hkn
      have hkl : k < (bn t).length := by rw [HLN.out]; exact hkn
      obtain ⟨c, hcc⟩ : ∃ c, (bn t)[k]?.getD 0 = c := ⟨_, rfl⟩
      rw [hcc] at hc hcb
      obtain ⟨c0, c1⟩ := hcb
      by_cases hd : 48 ≤ c ∧ c ≤ 57
      · have hxc := dg_digit hd
        have hN := hdg.out.step hkl hcc (by omega)
        rw [hxc] at hN
        have HN := hid hN
        have HO := hid (fun h => hN.over h)
        obtain ⟨d0, d1⟩ := hd
        clear hN hxc hdg hcc hkl hB
        by_cases iov : a * 16 + (c - 48) ≤ 2147483647
        · go_wp2
          refine ⟨⟨k + 1, a * 16 + (c - 48), rfl, (by first | rfl | (congr 1; omega)), (by first | rfl | (congr 1; omega)), by omega, by omega, by omega, HN⟩, by simp [intOf]; omega⟩
        · have HO2 := hid (HO.out (by unfold top31; omega))
          go_wp2
          go_ret2
          exact ⟨.inr (.inr ⟨HO2.out, rfl⟩), HBL.out⟩
      · obtain ⟨d, hor, e0, e1, l1, l2, l3⟩ := low_cases c c0 c1
        by_cases hl : 97 ≤ d ∧ d ≤ 102
        · have hxc : dg c = d - 97 + 10 := by
            rcases l3 hl with q | q
            · rw [dg_small q, l2 q]; omega
            · rw [dg_capital q, l1 q]; omega
          have hN := hdg.out.step hkl hcc (by omega)
          rw [hxc] at hN
          have HN := hid hN
          have HO := hid (fun h => hN.over h)
          obtain ⟨d0, d1⟩ := hl
          have hnu : c ≠ 95 := by
            intro e
            rcases l3 ⟨d0, d1⟩ with q | q <;> omega
          have hnd : c < 48 ∨ 57 < c := by omega
          have HOR := hid hor
          clear hN hxc hdg hcc hkl hB l1 l2 l3 hor hd
          by_cases iov : a * 16 + (d - 97 + 10) ≤ 2147483647
          · rcases hnd with hnd | hnd
            all_goals
              go_wp2_with (go_at_call 85; refine (low_any c d HOR.out _).mono ?_; rintro e w' ⟨rfl, rfl⟩)
              refine ⟨⟨k + 1, a * 16 + (d - 97 + 10), rfl, (by first | rfl | (congr 1; omega)), (by first | rfl | (congr 1; omega)), by omega, by omega, by omega, HN⟩, by simp [intOf]; omega⟩
          · have HO2 := hid (HO.out (by unfold top31; omega))
            rcases hnd with hnd | hnd
            all_goals
              go_wp2_with (go_at_call 85; refine (low_any c d HOR.out _).mono ?_; rintro e w' ⟨rfl, rfl⟩)
              go_ret2
              exact ⟨.inr (.inr ⟨HO2.out, rfl⟩), HBL.out⟩
        · have hbad := Dg.bad hkl hcc (dg_none hd (fun q => hl (by rw [l2 q]; exact q)) (fun q => hl (by rw [l1 q]; omega)))
          have HBAD := hid hbad
          have HOR := hid hor
          have hnd : c < 48 ∨ 57 < c := by omega
          have hnl : d < 97 ∨ 102 < d := by omega
          clear hbad hdg hcc hkl hB l1 l2 l3 hor hd hl
          by_cases h95 : c = 95
          · subst h95
            rcases hnl with hnl | hnl
            all_goals
              go_wp2_with (go_at_call 85; refine (low_any 95 d HOR.out _).mono ?_; rintro e w' ⟨rfl, rfl⟩)
              all_goals go_ret2
              all_goals exact ⟨.inr (.inl ⟨HBAD.out, rfl⟩), HBL.out⟩
          · rcases hnd with hnd | hnd <;> rcases hnl with hnl | hnl
            all_goals
              go_wp2_with (go_at_call 85; refine (low_any c d HOR.out _).mono ?_; rintro e w' ⟨rfl, rfl⟩)
              all_goals go_ret2
              all_goals exact ⟨.inr (.inl ⟨HBAD.out, rfl⟩), HBL.out⟩
    · have hkk : k = t.size := by omega
      have hfin := Dg.all (l := bn t) (a := a) (by rw [HLN.out]; exact hkk ▸ hdg.out)
      have HFIN := hid hfin
      clear hfin hdg hB
      subst hkk
      go_wp2
      go_ret2
      exact ⟨.inl ⟨HFIN.out.1, by rw [HFIN.out.2]; unfold top31; omega, by rw [HFIN.out.2]; omega, by rw [HFIN.out.2] <;> rfl⟩, HBL.out⟩
set_option maxHeartbeats 4000000 in
set_option maxRecDepth 100000 in
theorem par_empty (w : World) : Calls Tryd.prog 81 #[.string ⟨#[]⟩, .int .i64 16, .int .i64 31] w fun e w' => e = .returned (.tuple #[.int .u64 0, .iface 119 (.int .i64 2)]) ∧ w' = w := by
  go_enter Tryd.func81, Tryd.ntmps81
  go_wp2
  go_ret2
  exact ⟨rfl, rfl⟩
end Go.Proofs.YtphkdagapoonjaaDoor.Lx
