/- The contract of the document's number. -/
import Derived.Test.YtlgnnljleooenaaDoorK
namespace Go.Proofs.YtlgnnljleooenaaDoor
open Go.RowKit
set_option linter.unusedVariables false

/-- What the first digit tells of the number so far. -/
def numC (s : ByteArray) (j : Nat) (N : Int) : Prop := (∀ h : 0 < s.size, j = 1 → (N = 0 ↔ (s[0].toNat : Int) = 48)) ∧ (2 ≤ j → 1 ≤ N)
set_option maxRecDepth 100000 in
set_option maxHeartbeats 1600000 in
theorem rnumber_walk (s : ByteArray) (hs : s.size ≤ 1099511627776) (RN : Int) (RK : Nat) (hR : Hid (numl 6 ((bn s).drop 0) 0 0 = (RN, RK))) (w : World) :
    Calls Tryd.prog 40 #[.string s] w fun e W' => e = .returned (.tuple #[.int .i32 RN, .int .i64 (RK : Int)]) ∧ W' = w := by
  go_enter Tryd.func40, Tryd.ntmps40
  go_wp2_with fail
  go_loop [4, 5] (fun n i => ∃ (j f : Nat) (N : Int), n = .int .i32 N ∧ i = .int .i64 j ∧ j ≤ s.size ∧ sz16 j N ∧ 0 ≤ N ∧ f + j = 6 ∧ Hid (numC s j N) ∧ Hid (numl f ((bn s).drop j) j N = (RN, RK))) (fun _ i => s.size - (intOf i).toNat)
  case atStart => exact ⟨0, 6, 0, rfl, rfl, Nat.zero_le _, .inl ⟨rfl, rfl⟩, by omega, rfl, ⟨fun _ h => by omega, fun h => by omega⟩, hR⟩
  case round =>
    obtain ⟨j, f, N, rfl, rfl, hjs, hsz, hN0, hfj, HC, HR⟩ := hrel
    clear hR
    have hN1 := sz16_lt hsz
    by_cases hlt : j < s.size
    · have hji : (j : Int) < (s.size : Int) := by omega
      have hp0 : 0 < s.size := by omega
      have hp0' : (0 : Int) < (s.size : Int) := by omega
      by_cases h6 : j < 6
      · have h6' : (j : Int) < 6 := by omega
        obtain ⟨f', rfl⟩ : ∃ f', f = f' + 1 := ⟨f - 1, by omega⟩
        by_cases hno : j = 1 ∧ (s[0].toNat : Int) = 48
        · obtain ⟨rfl, h48⟩ := hno
          have hN : N = 0 := (HC.out.1 hp0 rfl).2 h48
          have HE : Hid (RN = N ∧ RK = 1) := by
            have := HR.out
            rw [numl_nought s _ 1 1 N hlt (by omega) hN] at this
            simp only [Prod.mk.injEq] at this
            exact ⟨this.1.symm, this.2.symm⟩
          have h48b : ((s[0].toNat : Int) == 48) = true := by simpa using h48
          clear HR HC hsz hN h48
          go_wp2
          go_ret2
          exact ⟨by rw [HE.out.1, HE.out.2]; rfl, rfl⟩
        · have hnn : ¬ (0 < j ∧ N = 0) := by
            rintro ⟨a, b⟩
            by_cases hj1 : j = 1
            · exact hno ⟨hj1, (HC.out.1 hp0 hj1).1 b⟩
            · have := HC.out.2 (by omega); omega
          have hbt : 0 ≤ (s[j].toNat : Int) ∧ (s[j].toNat : Int) ≤ 255 := by have := s[j].toNat_lt; omega
          have HNO := hid' hno
          have HC0 : Hid (j = 0 → (s[j].toNat : Int) = (s[0].toNat : Int)) := fun h => by subst h; rfl
          by_cases hj1 : j = 1
          · have h48 : ¬ (s[0].toNat : Int) = 48 := fun h => hno ⟨hj1, h⟩
            have h48b : ((s[0].toNat : Int) == 48) = false := by simpa using h48
            clear hno HNO
            subst hj1
            rcases dig_cases (s[1].toNat : Int) with ⟨hd, g2, g3⟩ | ⟨hd, g2, g3⟩ | ⟨hd, g2, g3⟩
            · obtain ⟨D, hD⟩ : ∃ D, D = (s[1].toNat : Int) - 48 := ⟨_, rfl⟩
              have HDV := hid' hD
              have HDG : Hid (dig (s[1].toNat : Int) = some D) := by show _ = _; rw [hd, hD]
              have hDb : 0 ≤ D ∧ D ≤ 15 := by omega
              have HCD : Hid (1 = 0 → (D = 0 ↔ (s[0].toNat : Int) = 48)) := fun h => by rw [← HC0.out h]; omega
              clear hd hD HC0
              have HR2 : Hid (numl f' ((bn s).drop (1 + 1)) (1 + 1) (N * 16 + D) = (RN, RK)) := by
                show _ = _
                rw [← HR.out, numl_go s f' 1 1 N hlt (by rw [HDG.out]; rfl) hnn, HDG.out]; rfl
              have HZ := hid' (sz16_step hsz h6 hN0 hDb.2)
              have hN9 := HZ.out.2
              have HC2 : Hid (numC s (1 + 1) (N * 16 + D)) := by
                show numC _ _ _
                refine ⟨fun h0 hj1 => ?_, fun hj2 => ?_⟩
                · exfalso; omega
                · have : ¬ N = 0 := fun h => hnn ⟨by omega, h⟩
                  omega
              clear HR HC hsz hnn
              have hDD := HDV.out
              subst hDD
              go_wp2
              go_round
              case rel => exact ⟨1 + 1, f', _, rfl, by go_num, by omega, HZ.out.1, by omega, by omega, HC2, HR2⟩
              case measure => simp [intOf]; omega
            · obtain ⟨D, hD⟩ : ∃ D, D = (s[1].toNat : Int) - 87 := ⟨_, rfl⟩
              have HDV := hid' hD
              have HDG : Hid (dig (s[1].toNat : Int) = some D) := by show _ = _; rw [hd, hD]
              have hDb : 0 ≤ D ∧ D ≤ 15 := by omega
              have HCD : Hid (1 = 0 → (D = 0 ↔ (s[0].toNat : Int) = 48)) := fun h => by rw [← HC0.out h]; omega
              clear hd hD HC0
              have HR2 : Hid (numl f' ((bn s).drop (1 + 1)) (1 + 1) (N * 16 + D) = (RN, RK)) := by
                show _ = _
                rw [← HR.out, numl_go s f' 1 1 N hlt (by rw [HDG.out]; rfl) hnn, HDG.out]; rfl
              have HZ := hid' (sz16_step hsz h6 hN0 hDb.2)
              have hN9 := HZ.out.2
              have HC2 : Hid (numC s (1 + 1) (N * 16 + D)) := by
                show numC _ _ _
                refine ⟨fun h0 hj1 => ?_, fun hj2 => ?_⟩
                · exfalso; omega
                · have : ¬ N = 0 := fun h => hnn ⟨by omega, h⟩
                  omega
              clear HR HC hsz hnn
              have hDD := HDV.out
              subst hDD
              go_wp2
              go_round
              case rel => exact ⟨1 + 1, f', N * 16 + ((s[1].toNat : Int) - 87), by congr 1; omega, by go_num, by omega, HZ.out.1, by omega, by omega, HC2, HR2⟩
              case measure => simp [intOf]; omega
            · have HE : Hid (RN = N ∧ RK = 1) := by
                have := HR.out
                rw [numl_no s _ 1 1 N hlt (by rw [hd]; rfl)] at this
                simp only [Prod.mk.injEq] at this
                exact ⟨this.1.symm, this.2.symm⟩
              clear HR HC hsz hd HC0
              go_wp2
              all_goals first | (exfalso; omega) | (go_ret2; exact ⟨by rw [HE.out.1, HE.out.2]; rfl, rfl⟩)
          · have hj1b : ((j : Int) == 1) = false := by simp; omega
            clear hno HNO
            rcases dig_cases (s[j].toNat : Int) with ⟨hd, g2, g3⟩ | ⟨hd, g2, g3⟩ | ⟨hd, g2, g3⟩
            · obtain ⟨D, hD⟩ : ∃ D, D = (s[j].toNat : Int) - 48 := ⟨_, rfl⟩
              have HDV := hid' hD
              have HDG : Hid (dig (s[j].toNat : Int) = some D) := by show _ = _; rw [hd, hD]
              have hDb : 0 ≤ D ∧ D ≤ 15 := by omega
              have HCD : Hid (j = 0 → (D = 0 ↔ (s[0].toNat : Int) = 48)) := fun h => by rw [← HC0.out h]; omega
              clear hd hD HC0
              have HR2 : Hid (numl f' ((bn s).drop (j + 1)) (j + 1) (N * 16 + D) = (RN, RK)) := by
                show _ = _
                rw [← HR.out, numl_go s f' j j N hlt (by rw [HDG.out]; rfl) hnn, HDG.out]; rfl
              have HZ := hid' (sz16_step hsz h6 hN0 hDb.2)
              have hN9 := HZ.out.2
              have HC2 : Hid (numC s (j + 1) (N * 16 + D)) := by
                show numC _ _ _
                refine ⟨fun h0 hj1 => ?_, fun hj2 => ?_⟩
                · obtain rfl : j = 0 := by omega
                  have : N = 0 := by rcases hsz with ⟨_, h⟩ | ⟨h, _⟩ | ⟨h, _⟩ | ⟨h, _⟩ | ⟨h, _⟩ | ⟨h, _⟩ | ⟨h, _⟩ <;> omega
                  subst this
                  have e := HCD.out
                  omega
                · have : ¬ N = 0 := fun h => hnn ⟨by omega, h⟩
                  omega
              clear HR HC hsz hnn
              have hDD := HDV.out
              subst hDD
              go_wp2
              go_round
              case rel => exact ⟨j + 1, f', _, rfl, by go_num, by omega, HZ.out.1, by omega, by omega, HC2, HR2⟩
              case measure => simp [intOf]; omega
            · obtain ⟨D, hD⟩ : ∃ D, D = (s[j].toNat : Int) - 87 := ⟨_, rfl⟩
              have HDV := hid' hD
              have HDG : Hid (dig (s[j].toNat : Int) = some D) := by show _ = _; rw [hd, hD]
              have hDb : 0 ≤ D ∧ D ≤ 15 := by omega
              have HCD : Hid (j = 0 → (D = 0 ↔ (s[0].toNat : Int) = 48)) := fun h => by rw [← HC0.out h]; omega
              clear hd hD HC0
              have HR2 : Hid (numl f' ((bn s).drop (j + 1)) (j + 1) (N * 16 + D) = (RN, RK)) := by
                show _ = _
                rw [← HR.out, numl_go s f' j j N hlt (by rw [HDG.out]; rfl) hnn, HDG.out]; rfl
              have HZ := hid' (sz16_step hsz h6 hN0 hDb.2)
              have hN9 := HZ.out.2
              have HC2 : Hid (numC s (j + 1) (N * 16 + D)) := by
                show numC _ _ _
                refine ⟨fun h0 hj1 => ?_, fun hj2 => ?_⟩
                · obtain rfl : j = 0 := by omega
                  have : N = 0 := by rcases hsz with ⟨_, h⟩ | ⟨h, _⟩ | ⟨h, _⟩ | ⟨h, _⟩ | ⟨h, _⟩ | ⟨h, _⟩ | ⟨h, _⟩ <;> omega
                  subst this
                  have e := HCD.out
                  omega
                · have : ¬ N = 0 := fun h => hnn ⟨by omega, h⟩
                  omega
              clear HR HC hsz hnn
              have hDD := HDV.out
              subst hDD
              go_wp2
              go_round
              case rel => exact ⟨j + 1, f', N * 16 + ((s[j].toNat : Int) - 87), by congr 1; omega, by go_num, by omega, HZ.out.1, by omega, by omega, HC2, HR2⟩
              case measure => simp [intOf]; omega
            · have HE : Hid (RN = N ∧ RK = j) := by
                have := HR.out
                rw [numl_no s _ j j N hlt (by rw [hd]; rfl)] at this
                simp only [Prod.mk.injEq] at this
                exact ⟨this.1.symm, this.2.symm⟩
              clear HR HC hsz hd HC0
              go_wp2
              all_goals first | (exfalso; omega) | (go_ret2; exact ⟨by rw [HE.out.1, HE.out.2]; rfl, rfl⟩)
      · have h6' : ¬ (j : Int) < 6 := by omega
        have HE : Hid (RN = N ∧ RK = j) := by
          have := HR.out
          rw [show f = 0 by omega] at this
          simp only [numl, Prod.mk.injEq] at this
          exact ⟨this.1.symm, this.2.symm⟩
        clear HR HC hsz
        go_wp2
        go_ret2
        exact ⟨by rw [HE.out.1, HE.out.2]; rfl, rfl⟩
    · have hji : ¬ (j : Int) < (s.size : Int) := by omega
      have HE : Hid (RN = N ∧ RK = j) := by
        have := HR.out
        rw [numl_end s _ j j N (by omega)] at this
        simp only [Prod.mk.injEq] at this
        exact ⟨this.1.symm, this.2.symm⟩
      clear HR HC hsz
      go_wp2
      go_ret2
      exact ⟨by rw [HE.out.1, HE.out.2]; rfl, rfl⟩
theorem rnumber_any (s : ByteArray) (hs : s.size ≤ 1099511627776) (w : World) :
    Calls Tryd.prog 40 #[.string s] w fun e W' => e = .returned (.tuple #[.int .i32 (numl 6 (bn s) 0 0).1, .int .i64 ((numl 6 (bn s) 0 0).2 : Int)]) ∧ W' = w :=
  rnumber_walk s hs _ _ rfl w
end Go.Proofs.YtlgnnljleooenaaDoor
