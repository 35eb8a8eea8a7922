/- The walks of DataScripts and DataRests. -/
import Derived.Test.YtiabdlgnblaglaaI
namespace Go.Proofs.Ytiabdlgnblaglaa
open Go.RowKit Go.Lib Go.Sort Go.Shelf
set_option linter.unusedVariables false

theorem getD_mem {l : List Int} {k : Nat} (h : k < l.length) : l[k]?.getD 0 ∈ l := by
  rw [List.getElem?_eq_getElem h]; exact List.getElem_mem h

set_option maxRecDepth 100000 in
set_option maxHeartbeats 3200000 in
theorem scripts_walk (r : Int) (w : World) : Calls Try.prog 7 #[.int .i32 r] w fun e W' => e = .returned (.bool true) ∧ Below w.heap.size w W' := by
  obtain ⟨L, hL⟩ : ∃ L, L = mp r := ⟨_, rfl⟩
  have hok : ∀ c ∈ L, (fnd c).2.2.2.1 = (fnd r).2.2.2.1 := fun c hc => (mp_ok (hL ▸ hc)).2.2
  have hl2 : L.length ≤ 2 := hL ▸ mp_len r
  obtain ⟨S, hS⟩ : ∃ S, S = (fnd r).2.2.2.1 := ⟨_, rfl⟩
  rw [← hS] at hok
  have HOK := hid' hok
  have HL := hid' hL
  have HS := hid' hS
  clear hok hL hS
  go_enter Try.func7, Try.ntmps7
  go_wp2_with fail
  refine (map_any r _).mono ?_
  rw [← HL.out]
  rintro e w1 ⟨⟨v1, rfl, hv1⟩, hB1⟩
  clear HL
  obtain ⟨a1, c1, rfl⟩ : ∃ a c, v1 = .slice a L.length c := by obtain ⟨a, c, e, _⟩ := hv1; exact ⟨a, c, e⟩
  have HV1 := hid' hv1
  clear hv1
  go_wp2_with fail
  go_loopw [4] (fun i wr => ∃ k : Nat, k ≤ L.length ∧ i = .int .i64 k ∧ Below w.heap.size w wr ∧ Hid (IntsAt wr (.slice a1 L.length c1) L)) (fun i _ => L.length - (intOf i).toNat)
  case atStart => exact ⟨0, by omega, rfl, hB1, HV1⟩
  case round =>
    obtain ⟨k, hk, rfl, hB, HV⟩ := hrel
    clear HV1 hB1
    by_cases hlt : k < L.length
    · have hlt' : (k : Int) < (L.length : Int) := by omega
      obtain ⟨c, hc⟩ : ∃ c, c = L[k]?.getD 0 := ⟨_, rfl⟩
      obtain ⟨b, off, rfl, hcell⟩ : ∃ b off, a1 = some ⟨b, off, none⟩ ∧ wr.cell? ⟨b, off + k, none⟩ = some (.int .i32 c) := by
        obtain ⟨a, cc, e, _, h⟩ := HV.out
        obtain ⟨b, off, rfl, g⟩ := h (by omega)
        cases e
        exact ⟨b, off, rfl, hc ▸ g k hlt⟩
      have HSC : Hid ((fnd c).2.2.2.1 = S) := HOK.out c (hc ▸ getD_mem hlt)
      clear hc
      go_wp2_with fail
      refine (script_any c _).mono ?_
      rw [HSC.out]
      rintro e w2 ⟨rfl, hb2⟩
      have hB2 := hB.trans (hb2.mono hB.size)
      have HV2 := hid' (HV.out.below hb2 (Nat.le_refl _))
      clear hb2 hB HV hcell
      go_wp2_with fail
      refine (script_any r _).mono ?_
      rw [← HS.out]
      rintro e w3 ⟨rfl, hb3⟩
      have hB3 := hB2.trans (hb3.mono hB2.size)
      have HV3 := hid' (HV2.out.below hb3 (Nat.le_refl _))
      clear hb3 hB2 HV2
      go_wp2
      go_roundw
      case rel => exact ⟨k + 1, by omega, by go_num, hB3, HV3⟩
      case measure => simp [intOf]; omega
    · have hnl : ¬ (k : Int) < (L.length : Int) := by omega
      clear HV
      obtain ⟨C, hC⟩ : ∃ C, C = (fnd r).2.2.2.2.2.1 := ⟨_, rfl⟩
      have HC := hid' hC
      go_wp2_with fail
      refine (class_any r _).mono ?_
      rw [← HC.out]
      rintro e w2 ⟨rfl, hb2⟩
      have hB2 := hB.trans (hb2.mono hB.size)
      clear hb2 hB
      by_cases h0 : C = 0
      · have h0b : (C != 0) = false := by simpa using h0
        have h0c : (C == 0) = true := by simpa using h0
        clear hC h0
        go_wp2_with fail
        refine (works_any _).mono ?_
        rintro e w3 ⟨rfl, hb3⟩
        go_wp2
        go_ret
        exact ⟨rfl, hB2.trans (hb3.mono hB2.size)⟩
      · have h0b : (C != 0) = true := by simpa using h0
        have h0c : (C == 0) = false := by simpa using h0
        have HF := hid' (fnd_class (r := r) (by rw [← hC]; exact h0))
        clear hC h0
        go_wp2_with fail
        refine (mark_any r _).mono ?_
        rw [HF.out.1]
        rintro e w3 ⟨rfl, hb3⟩
        have hB3 := hB2.trans (hb3.mono hB2.size)
        clear hb3 hB2
        go_wp2_with fail
        refine (bidi_any r _).mono ?_
        rw [HF.out.2.1]
        rintro e w4 ⟨rfl, hb4⟩
        have hB4 := hB3.trans (hb4.mono hB3.size)
        clear hb4 hB3
        go_wp2_with fail
        refine (joining_any r _).mono ?_
        rw [HF.out.2.2.1]
        rintro e w5 ⟨rfl, hb5⟩
        have hB5 := hB4.trans (hb5.mono hB4.size)
        clear hb5 hB4
        go_wp2_with fail
        refine (status_any r _).mono ?_
        rw [HF.out.2.2.2]
        rintro e w6 ⟨rfl, hb6⟩
        have hB6 := hB5.trans (hb6.mono hB5.size)
        clear hb6 hB5
        go_wp2_with fail
        refine (works_any _).mono ?_
        rintro e w7 ⟨rfl, hb7⟩
        go_wp2
        go_ret
        exact ⟨rfl, hB6.trans (hb7.mono hB6.size)⟩
end Go.Proofs.Ytiabdlgnblaglaa
