/- The contract of the document's own Next: it answers what stands at the front. -/
import Derived.Test.YtnkbfpmaifgenaaUU
namespace Go.Proofs.Ytnkbfpmaifgenaa.U
open Go.RowKit

theorem bn_first (s : ByteArray) (n : Nat) : bn (s.extract 0 n) = (bn s).take n := by
  unfold bn
  rw [Lib.extract_data]
  simp [List.map_take]
theorem nx_four (l : List Int) (h : l ≠ []) (hl : Bytes l) : (nx l).2.1 ≤ 4 := by
  rcases nx_inv l h hl with ⟨a, t, _, h0, h1, e⟩ | ⟨a, b, t, _, h1, h2, h3, h4, e⟩ | ⟨a, b, c, t, _, h1, h2, h3, h4, h5, h6, e⟩ | ⟨a, b, c, d, t, _, h1, h2, h3, h4, h5, h6, h7, h8, e⟩ | ⟨n, _, _, e⟩
  all_goals (rw [e]; simp only; omega)
/-- No beginning is whole: then nothing is. -/
theorem not_whole (l : List Int) (hne : l ≠ []) (hl : Bytes l) (k : Nat) (hk : ¬ (k ≤ 4 ∧ k ≤ l.length)) (h : ∀ j, 1 ≤ j → j < k → wholeR (l.take j) = false) : (nx l).2.2 = false := by
  cases hw : (nx l).2.2 with
  | false => rfl
  | true =>
    have hn := nx_n l hne
    have h4 := nx_four l hne hl
    have := (whole_iff l hne hl (nx l).2.1 hn.1 hn.2).2 hw rfl
    rw [h _ hn.1 (by omega)] at this
    cases this

set_option maxRecDepth 100000 in
set_option maxHeartbeats 2000000 in
theorem refNext_any (s : ByteArray) (w : World) (hs : s.size ≤ 9223372036854775807) :
    Calls Try.prog 15 #[.string s] w fun e w' => e = .returned (.tuple #[.int .i32 (nx (bn s)).1, .int .i64 (nx (bn s)).2.1, .bool (nx (bn s)).2.2]) ∧ Below w.heap.size w w' := by
  by_cases hp : 0 < s.size
  · have he : s.toList.isEmpty = false := isEmpty_false s hp
    have hne : Hid (bn s ≠ []) := fun h => by have := congrArg List.length h; rw [bn_length, List.length_nil] at this; omega
    have hlen : Hid ((bn s).length = s.size) := bn_length s
    go_enter Try.func15, Try.ntmps15
    go_wp2_with fail
    go_loopw [5] (fun i wr => ∃ k : Nat, 1 ≤ k ∧ k ≤ 5 ∧ k ≤ s.size + 1 ∧ i = .int .i64 k ∧ Hid (∀ j, 1 ≤ j → j < k → wholeR ((bn s).take j) = false) ∧ Below w.heap.size w wr) (fun i _ => 5 - (intOf i).toNat)
    case atStart => exact ⟨1, by omega, by omega, by omega, rfl, fun j h1 h2 => by omega, Below.refl _ _⟩
    case round =>
      obtain ⟨k, hk1, hk5, hks, rfl, HW, hB⟩ := hrel
      by_cases hin : k ≤ 4 ∧ k ≤ s.size
      · obtain ⟨hk4, hkl⟩ := hin
        have hsz : (s.extract 0 k).size = k := by simp; omega
        have h1' : Hid (1 ≤ (s.extract 0 k).size ∧ (s.extract 0 k).size ≤ 4) := by constructor <;> omega
        clear hsz
        cases hw : wholeR ((bn s).take k) with
        | true =>
          have HX : Hid (nx (bn s) = (valR ((bn s).take k), k, true)) := (whole_iff _ hne.out (bn_bytes s) k hk1 (by rw [hlen.out]; exact hkl)).1 hw
          have HK : Hid (wholeR ((bn s).take k) = true) := hw
          clear hw
          go_wp2_with fail
          refine (whole_any _ h1'.out.1 h1'.out.2 _).mono ?_
          rw [bn_first, HK.out]
          rintro e w1 ⟨rfl, hB1⟩
          go_wp2_with fail
          refine (value_any _ h1'.out.1 h1'.out.2 _).mono ?_
          rw [bn_first]
          rintro e w2 ⟨rfl, rfl⟩
          go_wp2
          go_ret3
          exact ⟨by rw [HX.out]; rfl, hB.trans (hB1.mono hB.size)⟩
        | false =>
          have HK : Hid (wholeR ((bn s).take k) = false) := hw
          clear hw
          go_wp2_with fail
          refine (whole_any _ h1'.out.1 h1'.out.2 _).mono ?_
          rw [bn_first, HK.out]
          rintro e w1 ⟨rfl, hB1⟩
          have B1 := hB.trans (hB1.mono hB.size)
          clear hB hB1
          go_wp2
          go_roundw
          case rel => exact ⟨k + 1, by omega, by omega, by omega, by go_num, fun j g1 g2 => by
            by_cases hj : j < k
            · exact HW.out j g1 hj
            · obtain rfl : j = k := by omega
              exact HK.out, B1⟩
          case measure => simp [intOf]; omega
      · have hnw := not_whole _ hne.out (bn_bytes s) k (by rw [hlen.out]; exact hin) HW.out
        have hF := nx_fail _ hne.out (bn_bytes s) hnw
        have hnn := nx_n _ hne.out
        rw [hlen.out] at hF hnn
        clear HW hnw
        obtain ⟨N, hN⟩ : ∃ N, N = (nx (bn s)).2.1 := ⟨_, rfl⟩
        rw [← hN] at hF hnn
        obtain ⟨hX, hN3, hbeg, hend⟩ := hF
        have HX : Hid (nx (bn s) = (65533, N, false)) := hX
        have HBG : Hid (∀ k, 1 ≤ k → k < N → begL ((bn s).take (k + 1)) = true) := hbeg
        have HED : Hid (N < s.size → N < 3 → begL ((bn s).take (N + 1)) = false) := hend
        clear hX hbeg hend hN
        have hor : (k ≤ 4 ∧ decide (k ≤ s.size) = false ∧ decide ((k : Int) ≤ (s.size : Int)) = false) ∨ (¬ k ≤ 4 ∧ decide ((k : Int) ≤ 4) = false ∧ decide (k ≤ 4) = false) := by
          by_cases hk4 : k ≤ 4
          · exact .inl ⟨hk4, decide_eq_false (by omega), decide_eq_false (by omega)⟩
          · exact .inr ⟨hk4, decide_eq_false (by omega), decide_eq_false (by omega)⟩
        rcases hor with ⟨hk4, hq1, hq2⟩ | ⟨hk4, hq1, hq2⟩
        all_goals
          go_wp2_with fail
          go_loopw [6] (fun i wr => ∃ k : Nat, 1 ≤ k ∧ k ≤ N ∧ i = .int .i64 k ∧ Below w.heap.size w wr) (fun i _ => N - (intOf i).toNat)
          case atStart => exact ⟨1, by omega, by omega, rfl, hB⟩
          case round =>
            rename_i wr2 _
            clear hB
            obtain ⟨m, hm1, hm2, rfl, hB⟩ := hrel
            by_cases hlt : m < N
            · have hsz : Hid (2 ≤ (s.extract 0 (m + 1)).size ∧ (s.extract 0 (m + 1)).size ≤ 3) := by
                have : (s.extract 0 (m + 1)).size = m + 1 := by simp; omega
                constructor <;> omega
              have hml : m < s.size := by omega
              have hm3 : m < 3 := by omega
              go_wp2_with fail
              refine (begins_any _ hsz.out.1 hsz.out.2 _).mono ?_
              rw [bn_first, HBG.out m hm1 hlt]
              rintro e w1 ⟨rfl, n, rfl⟩
              go_wp2
              go_roundw
              case rel => exact ⟨m + 1, by omega, by omega, by go_num, hB.trans (below_drewN _ _ _)⟩
              case measure => simp [intOf]; omega
            · have hmN : m = N := by omega
              rw [← hmN] at HX HED
              clear hmN
              by_cases hml : m < s.size
              · by_cases hm3 : m < 3
                · have hsz : Hid (2 ≤ (s.extract 0 (m + 1)).size ∧ (s.extract 0 (m + 1)).size ≤ 3) := by
                    have : (s.extract 0 (m + 1)).size = m + 1 := by simp; omega
                    constructor <;> omega
                  go_wp2_with fail
                  refine (begins_any _ hsz.out.1 hsz.out.2 _).mono ?_
                  rw [bn_first, HED.out hml hm3]
                  rintro e w1 ⟨rfl, n, rfl⟩
                  go_wp2
                  go_ret3
                  exact ⟨by rw [HX.out]; rfl, hB.trans (below_drewN _ _ _)⟩
                · try (exfalso; simp only [decide_eq_false_iff_not] at hq1; omega)
                  all_goals
                    go_wp2
                    go_ret3
                    exact ⟨by rw [HX.out]; rfl, hB⟩
              · go_wp2
                go_ret3
                exact ⟨by rw [HX.out]; rfl, hB⟩
  · have he : s.toList.isEmpty = true := isEmpty_true s (by omega)
    have hx : Hid (nx (bn s) = (0, 0, false)) := nx_nil s (by omega)
    go_enter Try.func15, Try.ntmps15
    go_wp2
    go_ret3
    exact ⟨by rw [hx.out]; rfl, Below.refl _ _⟩
end Go.Proofs.Ytnkbfpmaifgenaa.U
