/- The walk of DataRests. -/
import Derived.Test.YtiabdlgnblaglaaJ
namespace Go.Proofs.Ytiabdlgnblaglaa
open Go.RowKit Go.Lib Go.Sort Go.Shelf
set_option linter.unusedVariables false

set_option maxRecDepth 100000 in
set_option maxHeartbeats 3200000 in
theorem rests_walk (r : Int) (w : World) : Calls Try.prog 5 #[.int .i32 r] w fun e W' => e = .returned (.bool true) ∧ Below w.heap.size w W' := by
  obtain ⟨L, hL⟩ : ∃ L, L = mp r := ⟨_, rfl⟩
  have hok : ∀ c ∈ L, (fnd c).2.2.1 ≠ 3 ∧ (fnd c).2.2.1 ≠ 2 := fun c hc => ⟨(mp_ok (hL ▸ hc)).1, (mp_ok (hL ▸ hc)).2.1⟩
  have hl2 : L.length ≤ 2 := hL ▸ mp_len r
  obtain ⟨M, hM⟩ : ∃ M, M = lk r := ⟨_, rfl⟩
  have hmk : ∀ c ∈ M, lk c = [c] := fun c hc => lk_ok (hM ▸ hc)
  have hm2 : 0 < M.length ∧ M.length ≤ 2 := hM ▸ lk_pos r
  obtain ⟨hm0, hm2⟩ := hm2
  have hm0' : (0 : Int) < (M.length : Int) := by omega
  have HOK := hid' hok
  have HL := hid' hL
  have HMK := hid' hmk
  have HM := hid' hM
  clear hok hL hmk hM
  go_enter Try.func5, Try.ntmps5
  go_wp2_with fail
  refine (map_any r _).mono ?_
  rw [← HL.out]
  rintro e w1 ⟨⟨v1, rfl, hv1⟩, hB1⟩
  clear HL
  obtain ⟨a1, c1, rfl⟩ : ∃ a c, v1 = .slice a L.length c := by obtain ⟨a, c, e, _⟩ := hv1; exact ⟨a, c, e⟩
  have HV1 := hid' hv1
  clear hv1
  go_wp2_with fail
  go_loopw [4] (fun i wr => ∃ k : Nat, k ≤ L.length ∧ i = .int .i64 k ∧ Below w.heap.size w wr ∧ Hid (IntsAt wr (.slice a1 L.length c1) L)) (fun i _ => L.length - (intOf i).toNat)
  case atStart => exact ⟨0, by omega, rfl, hB1, HV1⟩
  case round =>
    obtain ⟨k, hk, rfl, hB, HV⟩ := hrel
    clear HV1 hB1
    by_cases hlt : k < L.length
    · have hlt' : (k : Int) < (L.length : Int) := by omega
      obtain ⟨c, hc⟩ : ∃ c, c = L[k]?.getD 0 := ⟨_, rfl⟩
      obtain ⟨b, off, rfl, hcell⟩ : ∃ b off, a1 = some ⟨b, off, none⟩ ∧ wr.cell? ⟨b, off + k, none⟩ = some (.int .i32 c) := by
        obtain ⟨a, cc, e, _, h⟩ := HV.out
        obtain ⟨b, off, rfl, g⟩ := h (by omega)
        cases e
        exact ⟨b, off, rfl, hc ▸ g k hlt⟩
      have hst := HOK.out c (hc ▸ getD_mem hlt)
      obtain ⟨S, hS⟩ : ∃ S, S = (fnd c).2.2.1 := ⟨_, rfl⟩
      have HS := hid' hS
      rw [← hS] at hst
      have hs3 : (S == 3) = false := by simpa using hst.1
      have hs2 : (S == 2) = false := by simpa using hst.2
      clear hc hS hst
      go_wp2_with fail
      refine (status_any c _).mono ?_
      rw [← HS.out]
      rintro e w2 ⟨rfl, hb2⟩
      have hB2 := hB.trans (hb2.mono hB.size)
      have HV2 := hid' (HV.out.below hb2 (Nat.le_refl _))
      clear hb2 hB HV hcell
      go_wp2
      go_roundw
      case rel => exact ⟨k + 1, by omega, by go_num, hB2, HV2⟩
      case measure => simp [intOf]; omega
    · have hnl : ¬ (k : Int) < (L.length : Int) := by omega
      clear HV
      go_wp2_with fail
      refine (like_any r _).mono ?_
      rw [← HM.out]
      rintro e w2 ⟨⟨v2, rfl, hv2⟩, hb2⟩
      have hB2 := hB.trans (hb2.mono hB.size)
      clear hb2 hB HM
      obtain ⟨a2, c2, rfl⟩ : ∃ a c, v2 = .slice a M.length c := by obtain ⟨a, c, e, _⟩ := hv2; exact ⟨a, c, e⟩
      have HV2 := hid' hv2
      clear hv2
      go_wp2_with fail
      go_loopw [7] (fun i wr => ∃ k : Nat, k ≤ M.length ∧ i = .int .i64 k ∧ Below w.heap.size w wr ∧ Hid (IntsAt wr (.slice a2 M.length c2) M)) (fun i _ => M.length - (intOf i).toNat)
      case atStart => exact ⟨0, by omega, rfl, hB2, HV2⟩
      case round =>
        obtain ⟨k, hk, rfl, hB, HV⟩ := hrel
        clear HV2 hB2
        by_cases hlt : k < M.length
        · have hlt' : (k : Int) < (M.length : Int) := by omega
          obtain ⟨c, hc⟩ : ∃ c, c = M[k]?.getD 0 := ⟨_, rfl⟩
          obtain ⟨b, off, rfl, hcell⟩ : ∃ b off, a2 = some ⟨b, off, none⟩ ∧ wr.cell? ⟨b, off + k, none⟩ = some (.int .i32 c) := by
            obtain ⟨a, cc, e, _, h⟩ := HV.out
            obtain ⟨b, off, rfl, g⟩ := h (by omega)
            cases e
            exact ⟨b, off, rfl, hc ▸ g k hlt⟩
          have hcall : ∀ W, Calls Try.prog 22 #[.int .i32 c] W fun e W' => Ans [c] W e W' := by
            intro W
            have := like_any c W
            rw [HMK.out c (hc ▸ getD_mem hlt)] at this
            exact this
          have HC := hid' hcall
          clear hc hcall
          have hbl : b < wr.heap.size := lt_of_cell hcell
          have hbn : ¬ b = wr.heap.size := by omega
          have hcellA : ∀ o : Obj, ((wr.drewN 1).alloc o).cell? ⟨b, off + k, none⟩ = some (.int .i32 c) := fun o => cell_alloc_sl o hcell
          go_wp2_with fail
          go_region_with (first | (go_at_call 22; refine (HC.out _).mono ?_; rintro e w3 ⟨⟨v3, rfl, hv3⟩, hb3⟩; have hcell3 : w3.cell? ⟨b, off + k, none⟩ = some (.int .i32 c) := (hb3.cell (p := ⟨b, off + k, none⟩) (by have := lt_of_cell hcell; simp at this ⊢; omega)).trans (by first | exact hcell | exact cell_alloc_sl _ hcell)) | (go_at_call 17; refine (runes_same _ _ [c] (by simp) _ (by first | exact hv3 | exact hv3.below ((Below.refl _ _).alloc (Nat.le_refl _) _) (Nat.le_refl _)) (by first | exact IntsAt.new1 _ _ | exact (IntsAt.new1 _ _).below hb3 (Nat.le_refl _))).mono ?_; rintro e w4 ⟨rfl, hb4⟩))
          all_goals (
            have hb34 : Below wr.heap.size wr w4 := by
              have h0 : Below wr.heap.size wr wr.drew := ⟨rfl, rfl, rfl, Nat.le_refl _, fun _ _ => rfl⟩
              first
                | (have h3 := h0.trans (hb3.mono (Nat.le_refl _)); have h5 := h3.alloc h3.size (.cells #[.int .i32 c] 21); exact h5.trans (hb4.mono h5.size))
                | (have h5 := h0.alloc h0.size (.cells #[.int .i32 c] 21); have h3 := h5.trans (hb3.mono h5.size); exact h3.trans (hb4.mono h3.size))
            have hB4 := hB.trans (hb34.mono hB.size)
            have HV4 := hid' (HV.out.below hb34 (Nat.le_refl _))
            clear hb34 hb3 hb4 hv3 hcell hcell3 hcellA HC HV hB
            go_wp2
            go_roundw
            case rel => exact ⟨k + 1, by omega, by go_num, hB4, HV4⟩
            case measure => simp [intOf]; omega)
        · have hnl : ¬ (k : Int) < (M.length : Int) := by omega
          clear HV
          go_wp2_with fail
          refine (works_any _).mono ?_
          rintro e w7 ⟨rfl, hb7⟩
          go_wp2
          go_ret
          exact ⟨rfl, hB.trans (hb7.mono hB.size)⟩
end Go.Proofs.Ytiabdlgnblaglaa
