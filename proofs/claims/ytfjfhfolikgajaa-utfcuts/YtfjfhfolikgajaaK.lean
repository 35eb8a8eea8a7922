/- The walk of UtfCuts: it returns true, whatever text and whatever place. -/
import Derived.Test.YtfjfhfolikgajaaG
import Derived.RegionTactic
import Derived.OpenShut
import Derived.Deep.QuietTactic
import Derived.BigQuiet
namespace Go.Proofs.Ytfjfhfolikgajaa
open Go.RowKit

/-- A later world, in which all that lay lies as it lay. -/
structure Later (w : World) where
  W : World
  h : Below w.heap.size w W
theorem wp_region_quiet_in {P : Program} {id : Nat} {Q : Exit → Act → World → Prop} {a : Act} {w : World} {l : List Oper} (hm : P.follows .mixedOrders = true) (hB : Region.lexB .any l.toArray = true)
    (h : wpQuiet P l.toArray (fun w' => ∃ x : Later w, w' = x.W) (fun a' => ∀ w', (∃ x : Later w, w' = x.W) → Q .normal a' w') l a) : (Code.region id l.toArray true).wp P Q a w :=
  wp_region_quiet (C := fun w' => ∃ x : Later w, w' = x.W) hm hB ⟨⟨{ w with drawn := w.drawn + 1 }, ⟨rfl, rfl, rfl, Nat.le_refl _, fun _ _ => rfl⟩⟩, rfl⟩ (by simpa using h)
theorem Later.call {w : World} {f : FuncId} {args : Array Value} {v : Value} (x : Later w) (h : Calls Try.prog f args x.W fun e w' => e = .returned v ∧ Below x.W.heap.size x.W w') : Calls Try.prog f args x.W fun e w' => e = .returned v ∧ ∃ y : Later w, w' = y.W :=
  h.mono fun _ w' ⟨he, hb⟩ => ⟨he, ⟨w', x.h.trans (hb.mono x.h.size)⟩, rfl⟩

theorem own_shape {w : World} {base : Nat} {e : TypeId} {size : Nat} {v : Value} {n : Nat} {xs : List Value} (h : w.ownsRow base e size v n xs) : ∃ ad cap, v = .slice ad n cap ∧ (0 < n → ∃ g, ad = some ⟨g, 0, none⟩) := by
  rcases h.2 with ⟨rfl, rfl⟩ | ⟨g, cap, cur, rfl, _⟩
  · exact ⟨none, 0, rfl, fun h => by omega⟩
  · exact ⟨_, cap, rfl, fun _ => ⟨g, rfl⟩⟩
theorem own_cell {w : World} {base g n cap : Nat} {zs : List Int} (h : w.ownsRow base 21 1 (.slice (some ⟨g, 0, none⟩) n cap) n (zs.map (Value.int .i32))) (hn : n = zs.length) (j : Nat) (hj : j < zs.length) : w.cell? ⟨g, j, none⟩ = some (.int .i32 (zs[j]?.getD 0)) := by
  rw [h.cellAt j (by omega), List.getElem?_map, List.getElem?_eq_getElem hj]; rfl

theorem bn_upto (s : ByteArray) (n : Nat) : bn (s.extract 0 n) = (bn s).take n := by
  unfold bn
  rw [Lib.extract_data]
  simp [List.map_take]

set_option maxRecDepth 100000 in
set_option maxHeartbeats 4000000 in
theorem cuts_walk (s : ByteArray) (a : Int) (hs : s.size ≤ maxLen) (ha : (Lit.int .u16 a).wf = true) (w : World) :
    Calls Try.prog 7 #[.string s, .int .u16 a] w fun e w' => e = .returned (.bool true) ∧ Below w.heap.size w w' := by
  unfold maxLen at hs
  have hab := bounds_u16 ha
  clear ha
  by_cases h1 : 8192 < s.size
  · go_enter Try.func7, Try.ntmps7
    go_wp2_with fail
    refine (works_any _).mono ?_
    rintro e w' ⟨rfl, hB⟩
    go_wp2
    go_ret
    exact ⟨rfl, hB⟩
  cases hv : val (bn s) with
  | false =>
    have HV : Hid (val (bn s) = false) := hv
    clear hv
    go_enter Try.func7, Try.ntmps7
    go_wp2_with fail
    refine (valid_any _ (by omega) _).mono ?_
    rw [HV.out]
    rintro e w1 ⟨rfl, hB1⟩
    go_wp2_with fail
    refine (works_any _).mono ?_
    rintro e w' ⟨rfl, hB⟩
    go_wp2
    go_ret
    exact ⟨rfl, hB1.trans (hB.mono hB1.size)⟩
  | true =>
    obtain ⟨n, hn⟩ : ∃ n : Nat, a % ((s.size : Int) + 1) = (n : Int) := ⟨(a % ((s.size : Int) + 1)).toNat, by have := Int.emod_nonneg a (show ((s.size : Int) + 1) ≠ 0 by omega); omega⟩
    have hns : n ≤ s.size := by have := Int.emod_lt_of_pos a (show 0 < ((s.size : Int) + 1) by omega); omega
    have HV : Hid (val (bn s) = true) := hv
    have HC : Hid _ := cut _ _ n (Nat.le_refl _) (bn_bytes s) hv
    clear hv
    go_enter Try.func7, Try.ntmps7
    go_wp2_with fail
    refine (valid_any _ (by omega) _).mono ?_
    rw [HV.out]
    rintro e w1 ⟨rfl, hB1⟩
    go_wp2_with fail
    refine (decode_any _ (by omega) _).mono ?_
    rintro e w2 ⟨v2, rfl, hr2, hB2⟩
    have B2 := hB1.trans (hB2.mono hB1.size)
    go_wp2_with fail
    refine (decode_any _ (by simp; omega) _).mono ?_
    rw [bn_upto]
    rintro e w3 ⟨v3, rfl, hr3, hB3⟩
    have B3 := B2.trans (hB3.mono B2.size)
    have r2 := ownsRow_below hr2 hB3 (Nat.le_refl _)
    clear hr2 hB3 hB2 hB1 B2
    have ls := dec_len _ _ (Nat.le_refl _) (bn_bytes s)
    rw [bn_length] at ls
    generalize dec (bn s) = L at *
    generalize dec ((bn s).take n) = M at *
    obtain ⟨hML, hMi⟩ := HC.out
    clear HC
    obtain ⟨ad2, cap2, rfl, hg2⟩ := own_shape r2
    obtain ⟨ad3, cap3, rfl, hg3⟩ := own_shape hr3
    by_cases hM : M.length = 0
    · clear hg2 hg3
      go_wp2_with fail
      go_loopw [8] (fun i wr => i = .int .i64 0 ∧ wr = w3) (fun i _ => 0)
      case atStart => exact ⟨rfl, rfl⟩
      case round =>
        obtain ⟨rfl, rfl⟩ := hrel
        go_wp2_with fail
        refine (works_any _).mono ?_
        rintro e w4 ⟨rfl, hB4⟩
        go_wp2
        go_ret
        exact ⟨rfl, B3.trans (hB4.mono B3.size)⟩
    · obtain ⟨g2, rfl⟩ := hg2 (by omega)
      obtain ⟨g3, rfl⟩ := hg3 (by omega)
      have c2 : ∀ j, j < L.length → w3.cell? ⟨g2, j, none⟩ = some (.int .i32 (L[j]?.getD 0)) := fun j hj => own_cell r2 rfl j hj
      have c3 : ∀ j, j < M.length → w3.cell? ⟨g3, j, none⟩ = some (.int .i32 (M[j]?.getD 0)) := fun j hj => own_cell hr3 rfl j hj
      have hb2 : g2 < w3.heap.size := lt_of_cell (c2 0 (by omega))
      have hb3 : g3 < w3.heap.size := lt_of_cell (c3 0 (by omega))
      clear r2 hr3 hM
      go_wp2_with fail
      go_loopw [8] (fun i wr => ∃ k : Nat, k ≤ M.length ∧ i = .int .i64 k ∧ Below w3.heap.size w3 wr) (fun i _ => M.length - (intOf i).toNat)
      case atStart => exact ⟨0, Nat.zero_le _, rfl, Below.refl _ _⟩
      case round =>
        obtain ⟨k, hk, rfl, hBr⟩ := hrel
        by_cases hlt : k < M.length
        · have d2 : wr.cell? ⟨g2, k, none⟩ = some (.int .i32 (L[k]?.getD 0)) := (hBr.cell (p := ⟨g2, k, none⟩) hb2).trans (c2 k (by omega))
          have d3 : wr.cell? ⟨g3, k, none⟩ = some (.int .i32 (M[k]?.getD 0)) := (hBr.cell (p := ⟨g3, k, none⟩) hb3).trans (c3 k hlt)
          rcases hMi k hlt with q | ⟨q1, q2, q3⟩
          · rw [← q] at d2
            generalize M[k]?.getD 0 = c at d2 d3
            clear q hMi c2 c3
            go_wp2_with fail
            go_quiet (fail)
            go_wp2
            go_roundw
            case rel => exact ⟨k + 1, by omega, by go_num, hBr.trans (below_drewN _ _ _)⟩
            case measure => simp [intOf]; omega
          · rw [q2] at d3
            have HV3 : Hid (val ((bn s).take n) = false) := q3
            generalize L[k]?.getD 0 = c at d2
            clear q3 hMi c2 c3 q2
            have hlast : ((k : Int) == (M.length : Int) - 1) = true := by simp; omega
            cases hcc : ((65533 : Int) != c) with
            | false =>
              go_wp2_with fail
              go_quiet (fail)
              go_wp2
              go_roundw
              case rel => exact ⟨k + 1, by omega, by go_num, hBr.trans (below_drewN _ _ _)⟩
              case measure => simp [intOf]; omega
            | true =>
              have hne : Nonempty (Later wr) := ⟨⟨wr, Below.refl _ _⟩⟩
              have hsz : (s.extract 0 n).size ≤ 1099511627776 := by simp; omega
              have hcall : Hid (∀ W : World, Calls Try.prog 15 #[.string (s.extract 0 n)] W fun e w' => e = .returned (.bool false) ∧ Below W.heap.size W w') := fun W => by
                have hq := valid_any (s.extract 0 n) hsz W
                rw [bn_upto, HV3.out] at hq
                exact hq
              have x2 : ∀ x : Later wr, x.W.cell? ⟨g2, k, none⟩ = some (.int .i32 c) := fun x => (x.h.cell (p := ⟨g2, k, none⟩) (lt_of_cell d2)).trans d2
              have x3 : ∀ x : Later wr, x.W.cell? ⟨g3, k, none⟩ = some (.int .i32 65533) := fun x => (x.h.cell (p := ⟨g3, k, none⟩) (lt_of_cell d3)).trans d3
              go_wp2_with fail
              refine wp_region_quiet_in (by kernel_rfl) (by kernel_rfl) ?_
              repeat (go_big_quiet_step ((go_at_call 15; exact Later.call _ (hcall.out _))))
              refine wpQuiet_nil ?_
              rintro _ ⟨x, rfl⟩
              have B4 := hBr.trans (x.h.mono hBr.size)
              go_wp2
              go_roundw
              case rel => exact ⟨k + 1, by omega, by go_num, B4⟩
              case measure => simp [intOf]; omega
        · go_wp2_with fail
          refine (works_any _).mono ?_
          rintro e w4 ⟨rfl, hB4⟩
          go_wp2
          go_ret
          have B4 := B3.trans (hBr.mono B3.size)
          exact ⟨rfl, B4.trans (hB4.mono B4.size)⟩
end Go.Proofs.Ytfjfhfolikgajaa
