/- six.longest. (Stage 11.) -/
import Derived.Test.YtpkmpebhlolhaaaDoorWJ
import Derived.Test.YtpkmpebhlolhaaaDoorXM
namespace Go.Proofs.YtpkmpebhlolhaaaDoor.X
open Go.RowKit
open Go.Proofs.YtpkmpebhlolhaaaDoor.F (hx hx_bd vl vl_snoc bn bn_length bn_append bn_inj bn_get byte_bd hid bn_extract isEmpty_false isEmpty_true str_eq same_eq)
set_option linter.unusedVariables false

def clrF (A : List Nat) (f n : Nat) : List Nat := (List.range 8).map (fun j => if f ≤ j ∧ j < f + n then 0 else A[j]?.getD 0)
theorem clrF_len (A : List Nat) (f n : Nat) : (clrF A f n).length = 8 := by unfold clrF; simp
theorem clrF_eq {A X : List Nat} {f n : Nat} (h : Clr A X f n) : X = clrF A f n := by
  refine ext8 h.1 (clrF_len A f n) (fun j hj => ?_)
  rw [h.2 j]
  unfold clrF
  rw [List.getElem?_map, List.getElem?_range hj]; rfl
theorem clrF_clr (A : List Nat) (hA : A.length = 8) (f n : Nat) : Clr A (clrF A f n) f n := by
  refine ⟨clrF_len A f n, fun j => ?_⟩
  unfold clrF
  by_cases hj : j < 8
  · rw [List.getElem?_map, List.getElem?_range hj]; rfl
  · rw [List.getElem?_eq_none (by simp; omega), List.getElem?_eq_none (by omega)]; simp
theorem clearedF (a0 a1 a2 a3 a4 a5 a6 a7 f n : Nat) (hn : f + n ≤ 8) (w : World) :
    Calls Tryd.prog 31 #[.agg #[.int .u16 a0, .int .u16 a1, .int .u16 a2, .int .u16 a3, .int .u16 a4, .int .u16 a5, .int .u16 a6, .int .u16 a7], .int .i64 (f : Int), .int .i64 (n : Int)] w fun e W' => e = .returned (.agg (u16s (clrF [a0, a1, a2, a3, a4, a5, a6, a7] f n)).toArray) ∧ Below w.heap.size w W' :=
  (cleared_lit a0 a1 a2 a3 a4 a5 a6 a7 f n hn w).mono (by
    rintro e W' ⟨⟨X, h, rfl⟩, hB⟩
    rw [clrF_eq h]; exact ⟨rfl, hB⟩)
theorem neq_two {X Y : List Nat} (hX : X.length = 8) (hY : Y.length = 8) (b : Bool) (hb : decide (X = Y) = !b) (W : World) : (binOp .neq 23 (.agg (u16s X).toArray) (.agg (u16s Y).toArray)).run Tryd.prog W = .ok (.bool b) W := by
  rw [run_neq_struct, eq8 9998 _ _ (fun i => ((X[i]?.getD 0 : Nat) : Int)) (fun i => ((Y[i]?.getD 0 : Nat) : Int)) (u16_at hX) (u16_at hY)]
  have h : (List.range 8).all (fun i => ((X[i]?.getD 0 : Nat) : Int) == ((Y[i]?.getD 0 : Nat) : Int)) = decide (X = Y) := by
    rw [Bool.eq_iff_iff, List.all_eq_true, decide_eq_true_iff]
    constructor
    · intro h
      exact ext8 hX hY (fun j hj => by
        have := h j (List.mem_range.2 hj)
        exact Int.ofNat.inj (eq_of_beq this))
    · intro h i _
      rw [h]; simp
  rw [h, hb]
  cases b <;> rfl
/-- What six.longest answers. -/
def LonR (a : List Nat) (e : Ending) : Prop := e = .returned (.tuple #[.int .i64 ((st a 8).1 : Int), .int .i64 ((st a 8).2 : Int)])
set_option maxRecDepth 100000 in
set_option maxHeartbeats 8000000 in
theorem longest_lit (a0 a1 a2 a3 a4 a5 a6 a7 : Nat) (w : World) :
    Calls Tryd.prog 19 #[.agg #[.int .u16 a0, .int .u16 a1, .int .u16 a2, .int .u16 a3, .int .u16 a4, .int .u16 a5, .int .u16 a6, .int .u16 a7]] w fun e W' => LonR [a0, a1, a2, a3, a4, a5, a6, a7] e ∧ Below w.heap.size w W' := by
  have HB0 : Hid (Below w.heap.size w (w.alloc (.cells #[.int .u16 a0, .int .u16 a1, .int .u16 a2, .int .u16 a3, .int .u16 a4, .int .u16 a5, .int .u16 a6, .int .u16 a7] 23))) := (Below.refl _ w).alloc (Nat.le_refl _) _
  have HZ0 : Hid ((w.alloc (.cells #[.int .u16 a0, .int .u16 a1, .int .u16 a2, .int .u16 a3, .int .u16 a4, .int .u16 a5, .int .u16 a6, .int .u16 a7] 23)).heap.size = w.heap.size + 1) := by show _ = _; simp
  have HCL := hid (clearedF a0 a1 a2 a3 a4 a5 a6 a7)
  have HA0 : Hid (∀ W, Below (w.heap.size + 1) (w.alloc (.cells #[.int .u16 a0, .int .u16 a1, .int .u16 a2, .int .u16 a3, .int .u16 a4, .int .u16 a5, .int .u16 a6, .int .u16 a7] 23)) W → W.heap[w.heap.size]? = some (.cells (u16s [a0, a1, a2, a3, a4, a5, a6, a7]).toArray 23 (0, 0))) := fun W h => (h.block _ (by omega)).trans (box_in w _ _)
  have HL8 : Hid ([a0, a1, a2, a3, a4, a5, a6, a7].length = 8) := rfl
  have hlen8 : [a0, a1, a2, a3, a4, a5, a6, a7].length = 8 := rfl
  obtain ⟨a, ha⟩ : ∃ a, [a0, a1, a2, a3, a4, a5, a6, a7] = a := ⟨_, rfl⟩
  have HLIT : Hid ((u16s a).toArray = #[.int .u16 a0, .int .u16 a1, .int .u16 a2, .int .u16 a3, .int .u16 a4, .int .u16 a5, .int .u16 a6, .int .u16 a7]) := by show _ = _; rw [← ha]; rfl
  have HGA : Hid (a[0]?.getD 0 = a0 ∧ a[1]?.getD 0 = a1 ∧ a[2]?.getD 0 = a2 ∧ a[3]?.getD 0 = a3 ∧ a[4]?.getD 0 = a4 ∧ a[5]?.getD 0 = a5 ∧ a[6]?.getD 0 = a6 ∧ a[7]?.getD 0 = a7) := by rw [← ha]; exact ⟨rfl, rfl, rfl, rfl, rfl, rfl, rfl, rfl⟩
  rw [ha] at HCL HA0 HL8 ⊢
  have HS0 : Hid (st a 0 = (0, 0)) := rfl
  have HSB := hid (st_bd a HL8.out)
  clear ha hlen8
  go_enter Tryd.func19, Tryd.ntmps19
  go_wp2_with fail
  obtain ⟨w1, hw1⟩ : ∃ w1, w.alloc (.cells #[.int .u16 a0, .int .u16 a1, .int .u16 a2, .int .u16 a3, .int .u16 a4, .int .u16 a5, .int .u16 a6, .int .u16 a7] 23) = w1 := ⟨_, rfl⟩
  rw [hw1] at HB0 HZ0 HA0 ⊢
  obtain ⟨arg, harg⟩ : ∃ v : Value, Value.agg #[.int .u16 a0, .int .u16 a1, .int .u16 a2, .int .u16 a3, .int .u16 a4, .int .u16 a5, .int .u16 a6, .int .u16 a7] = v := ⟨_, rfl⟩
  rw [harg]
  clear hw1 harg
  go_step3
  go_wp2_with fail
  go_step3
  go_wp2_with fail
  go_loopw [2, 3, 6] (fun v2 v3 v6 wr => ∃ (i f m : Nat), i ≤ 8 ∧ f ≤ 8 ∧ m ≤ 8 ∧ v2 = .int .i64 (f : Int) ∧ v3 = .int .i64 (m : Int) ∧ v6 = .int .i64 (i : Int) ∧ Hid (st a i = (f, m)) ∧ Hid (Below w1.heap.size w1 wr)) (fun _ _ v6 _ => 8 - (intOf v6).toNat)
  case atStart => exact ⟨0, 0, 0, by omega, by omega, by omega, rfl, rfl, rfl, HS0, Below.refl _ _⟩
  case round =>
    obtain ⟨i, f, m, hi, hf, hm, rfl, rfl, rfl, HS, HB⟩ := hrel
    by_cases hlt : i < 8
    · have hltz : (i : Int) < 8 := by omega
      go_wp2_with fail
      have HU0 : Hid (up a i 2 = (f, m)) := (up_start a i).trans HS.out
      have hzr := zr_le a i
      rw [HL8.out] at hzr
      go_loopw [2, 3, 5] (fun v2 v3 v5 wq => ∃ (n p q : Nat), 2 ≤ n ∧ i + n ≤ 9 ∧ p ≤ 8 ∧ q ≤ 8 ∧ v2 = .int .i64 (p : Int) ∧ v3 = .int .i64 (q : Int) ∧ v5 = .int .i64 (n : Int) ∧ Hid (up a i n = (p, q)) ∧ Hid (n = 2 ∨ n - 1 ≤ zr a i) ∧ Hid (Below w1.heap.size w1 wq)) (fun _ _ v5 _ => 10 - (intOf v5).toNat)
      case atStart => exact ⟨2, f, m, by omega, by omega, hf, hm, rfl, rfl, rfl, HU0, .inl rfl, HB⟩
      case round =>
        obtain ⟨n, p, q, hn2, hn9, hp, hq, rfl, rfl, rfl, HU, HN, HBq⟩ := hrel
        by_cases hr : i + n ≤ 8
        · have hrz : (i : Int) + (n : Int) ≤ 8 := by omega
          have hne : Nonempty (Later wr) := ⟨⟨wr, Below.refl _ _⟩⟩
          have HAx : Hid (∀ x : Later wr, x.W.heap[w.heap.size]? = some (.cells (u16s a).toArray 23 (0, 0))) := fun x => HA0.out x.W (by
            have h1 := HBq.out
            have h2 := x.h
            have hz := HZ0.out
            rw [hz] at h1
            exact h1.trans (h2.mono (by have := h1.size; omega)))
          have cel : ∀ (j v : Nat), j < 8 → a[j]?.getD 0 = v → ∀ x : Later wr, x.W.cell? ⟨w.heap.size, j, none⟩ = some (.int .u16 (v : Int)) := fun j v hj hv x => by rw [cell_row (HAx.out x) (by rw [HL8.out]; exact hj), hv]
          obtain ⟨q0, q1, q2, q3, q4, q5, q6, q7⟩ := HGA.out
          have ya0 := cel 0 a0 (by omega) q0
          have ya1 := cel 1 a1 (by omega) q1
          have ya2 := cel 2 a2 (by omega) q2
          have ya3 := cel 3 a3 (by omega) q3
          have ya4 := cel 4 a4 (by omega) q4
          have ya5 := cel 5 a5 (by omega) q5
          have ya6 := cel 6 a6 (by omega) q6
          have ya7 := cel 7 a7 (by omega) q7
          have HKC := hid (fun W => HCL.out i n hr W)
          have HCLR := hid (clr_same HL8.out hr (clrF_clr a HL8.out i n))
          have HCLN := hid (clrF_len a i n)
          have HZA := hid (zr_all (a := a) (i := i) (n := n) HL8.out hr)
          obtain ⟨X, hX⟩ : ∃ X, clrF a i n = X := ⟨_, rfl⟩
          rw [hX] at HKC HCLR HCLN
          have HKB : Hid (∀ x : Later wr, Below w1.heap.size w1 x.W) := fun x => HBq.out.trans (x.h.mono HBq.out.size)
          clear cel q0 q1 q2 q3 q4 q5 q6 q7 hX HAx
          by_cases hz : n ≤ zr a i
          · have hXa : X = a := HCLR.out.2 (HZA.out.1 hz)
            have hnq : ∀ W, (binOp .neq 23 (.agg (u16s X).toArray) (.agg #[.int .u16 a0, .int .u16 a1, .int .u16 a2, .int .u16 a3, .int .u16 a4, .int .u16 a5, .int .u16 a6, .int .u16 a7])).run Tryd.prog W = .ok (.bool false) W := fun W => by
              rw [← HLIT.out]
              exact neq_two HCLN.out HL8.out false (by rw [decide_eq_true hXa]; rfl) W
            have HUM := hid (up_more (a := a) (i := i) hn2)
            rw [HU.out] at HUM
            have HN2 : Hid (n + 1 = 2 ∨ n + 1 - 1 ≤ zr a i) := .inr hz
            clear hXa HCLR HZA HU HN hz
            go_wp2_with fail
            refine wp_region_quiet_in (by kernel_rfl) (by kernel_rfl) ?_
            repeat (go_big_quiet_step ((go_at_call 31; exact Later.call _ (HKC.out _))))
            refine wpQuiet_nil ?_
            rintro _ ⟨x, rfl⟩
            have HBX := hid (HKB.out x)
            obtain ⟨w4, hw4⟩ : ∃ w4, w4 = x.W := ⟨_, rfl⟩
            rw [← hw4] at HBX ⊢
            clear hw4 x hne HKC HKB ya0 ya1 ya2 ya3 ya4 ya5 ya6 ya7 hnq
            by_cases hq : q < n
            · have hqz : (q : Int) < (n : Int) := by omega
              have HU2 : Hid (up a i (n + 1) = (i, n)) := by show _ = _; rw [HUM.out, if_pos hq]
              clear HUM
              go_wp2_with fail
              go_roundw
              case rel => exact ⟨n + 1, i, n, by omega, by omega, by omega, by omega, rfl, rfl, by go_num, HU2, HN2, HBX⟩
              case measure => simp [intOf]; omega
            · have hqz : ¬ (q : Int) < (n : Int) := by omega
              have HU2 : Hid (up a i (n + 1) = (p, q)) := by show _ = _; rw [HUM.out, if_neg hq]
              clear HUM
              go_wp2_with fail
              go_roundw
              case rel => exact ⟨n + 1, p, q, by omega, by omega, by omega, by omega, rfl, rfl, by go_num, HU2, HN2, HBX⟩
              case measure => simp [intOf]; omega
          · have hXa : X ≠ a := fun e => hz (HZA.out.2 (HCLR.out.1 e))
            have hnq : ∀ W, (binOp .neq 23 (.agg (u16s X).toArray) (.agg #[.int .u16 a0, .int .u16 a1, .int .u16 a2, .int .u16 a3, .int .u16 a4, .int .u16 a5, .int .u16 a6, .int .u16 a7])).run Tryd.prog W = .ok (.bool true) W := fun W => by
              rw [← HLIT.out]
              exact neq_two HCLN.out HL8.out true (by rw [decide_eq_false hXa]; rfl) W
            have HS2 : Hid (st a (i + 1) = (p, q)) := by show _ = _; rw [← up_end hn2 HN.out (by omega)]; exact HU.out
            clear hXa HCLR HZA HU HN hz
            go_wp2_with fail
            refine wp_region_quiet_in (by kernel_rfl) (by kernel_rfl) ?_
            repeat (go_big_quiet_step ((go_at_call 31; exact Later.call _ (HKC.out _))))
            refine wpQuiet_nil ?_
            rintro _ ⟨x, rfl⟩
            have HBX := hid (HKB.out x)
            obtain ⟨w4, hw4⟩ : ∃ w4, w4 = x.W := ⟨_, rfl⟩
            rw [← hw4] at HBX ⊢
            clear hw4 x hne HKC HKB ya0 ya1 ya2 ya3 ya4 ya5 ya6 ya7 hnq
            go_wp2_with fail
            go_roundw
            case rel => exact ⟨i + 1, p, q, by omega, hp, hq, rfl, rfl, by go_num, HS2, HBX⟩
            case measure => simp [intOf]; omega
        · have hrz : ¬ (i : Int) + (n : Int) ≤ 8 := by omega
          have HS2 : Hid (st a (i + 1) = (p, q)) := by show _ = _; rw [← up_end hn2 HN.out (by omega)]; exact HU.out
          clear HU HN
          go_wp2_with fail
          go_roundw
          case rel => exact ⟨i + 1, p, q, by omega, hp, hq, rfl, rfl, by go_num, HS2, HBq⟩
          case measure => simp [intOf]; omega
    · have hi8 : i = 8 := by omega
      have HR : Hid (LonR a (.returned (.tuple #[.int .i64 (f : Int), .int .i64 (m : Int)]))) := by
        show _ = _
        have := HS.out
        rw [hi8] at this
        rw [this]
      have HBF := hid (HB0.out.trans (HB.out.mono HB0.out.size))
      have hltz : ¬ (i : Int) < 8 := by omega
      clear hi8 HS
      go_wp2_with fail
      go_ret2
      exact ⟨HR.out, HBF.out⟩
end Go.Proofs.YtpkmpebhlolhaaaDoor.X
