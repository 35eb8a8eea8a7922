/- The walk of DataPairs. -/
import Derived.Test.YtiabdlgnblaglaaJ
namespace Go.Proofs.Ytiabdlgnblaglaa
open Go.RowKit Go.Lib Go.Sort Go.Shelf
set_option linter.unusedVariables false

/-- A later world, in which all that lay lies as it lay. -/
structure Later (w : World) where
  W : World
  h : Below w.heap.size w W
theorem wp_region_quiet_in {P : Program} {id : Nat} {Q : Exit → Act → World → Prop} {a : Act} {w : World} {l : List Oper} (hm : P.follows .mixedOrders = true) (hB : Region.lexB .any l.toArray = true)
    (h : wpQuiet P l.toArray (fun w' => ∃ x : Later w, w' = x.W) (fun a' => ∀ w', (∃ x : Later w, w' = x.W) → Q .normal a' w') l a) : (Code.region id l.toArray true).wp P Q a w :=
  wp_region_quiet (C := fun w' => ∃ x : Later w, w' = x.W) hm hB ⟨⟨{ w with drawn := w.drawn + 1 }, ⟨rfl, rfl, rfl, Nat.le_refl _, fun _ _ => rfl⟩⟩, rfl⟩ (by simpa using h)
theorem Later.call {w : World} {f : FuncId} {args : Array Value} {v : Value} (x : Later w) (h : Calls Try.prog f args x.W fun e w' => e = .returned v ∧ Below x.W.heap.size x.W w') : Calls Try.prog f args x.W fun e w' => e = .returned v ∧ ∃ y : Later w, w' = y.W :=
  h.mono fun _ w' ⟨he, hb⟩ => ⟨he, ⟨w', x.h.trans (hb.mono x.h.size)⟩, rfl⟩


set_option maxRecDepth 100000 in
set_option maxHeartbeats 3200000 in
theorem pairs_walk (r a b : Int) (w : World) : Calls Try.prog 6 #[.int .i32 r, .int .i32 a, .int .i32 b] w fun e W' => e = .returned (.bool true) ∧ Below w.heap.size w W' := by
  obtain ⟨D, hD⟩ : ∃ D, D = dcp r := ⟨_, rfl⟩
  have HD := hid' hD
  have hcs := dcp_cases r
  rw [← hD] at hcs
  clear hD
  have HPC := hid' (prf_cases a b)
  rcases hcs with hl | ⟨p, q, hpq, h1, h2, h3, h4⟩
  · have hne : ((D.length : Int) == 2) = false := by simp; omega
    have hle : (D.length : Int) ≤ 2 := by omega
    rcases HPC.out with hp | ⟨x, hp, hx⟩
    · have HP := hid' hp
      clear hp
      go_enter Try.func6, Try.ntmps6
      go_wp2_with fail
      refine (decomp_any r _).mono ?_
      rw [← HD.out]
      rintro e w1 ⟨⟨v1, rfl, hv1⟩, hB1⟩
      obtain ⟨a1, c1, rfl⟩ : ∃ a c, v1 = .slice a D.length c := by obtain ⟨a, c, e, _⟩ := hv1; exact ⟨a, c, e⟩
      clear hv1
      go_wp2_with fail
      refine (pair_any a b _).mono ?_
      rw [HP.out]
      rintro e w2 ⟨rfl, hb2⟩
      have hB2 := hB1.trans (hb2.mono hB1.size)
      clear hb2 hB1
      go_wp2_with fail
      refine (works_any _).mono ?_
      rintro e w3 ⟨rfl, hb3⟩
      go_wp2
      go_ret
      exact ⟨rfl, hB2.trans (hb3.mono hB2.size)⟩
    · have HP := hid' hp
      have HX := hid' hx
      clear hp hx
      go_enter Try.func6, Try.ntmps6
      go_wp2_with fail
      refine (decomp_any r _).mono ?_
      rw [← HD.out]
      rintro e w1 ⟨⟨v1, rfl, hv1⟩, hB1⟩
      obtain ⟨a1, c1, rfl⟩ : ∃ a c, v1 = .slice a D.length c := by obtain ⟨a, c, e, _⟩ := hv1; exact ⟨a, c, e⟩
      clear hv1
      go_wp2_with fail
      refine (pair_any a b _).mono ?_
      rw [HP.out]
      rintro e w2 ⟨rfl, hb2⟩
      have hB2 := hB1.trans (hb2.mono hB1.size)
      clear hb2 hB1
      go_wp2_with fail
      refine (decomp_any x _).mono ?_
      rw [HX.out]
      rintro e w3 ⟨⟨v3, rfl, hv3⟩, hb3⟩
      have hB3 := hB2.trans (hb3.mono hB2.size)
      clear hb3 hB2
      go_wp2_with fail
      refine (runes_same _ _ [a, b] (by simp) _ (hv3.below ((Below.refl _ _).alloc (Nat.le_refl _) _) (Nat.le_refl _)) (IntsAt.new2 _ _ _)).mono ?_
      rintro e w4 ⟨rfl, hb4⟩
      have hB4 : Below w.heap.size w w4 := (hB3.alloc hB3.size (.cells #[.int .i32 a, .int .i32 b] 21)).trans (hb4.mono (by have := hB3.size; simp; omega))
      clear hb4 hB3 hv3
      go_wp2_with fail
      refine (works_any _).mono ?_
      rintro e w5 ⟨rfl, hb5⟩
      go_wp2
      go_ret
      exact ⟨rfl, hB4.trans (hb5.mono hB4.size)⟩
  · subst hpq
    have HF := hid' (And.intro h1 (And.intro h2 h4))
    obtain ⟨C, hC⟩ : ∃ C, C = (fnd q).2.2.2.2.2.1 := ⟨_, rfl⟩
    have HC := hid' hC
    rw [← hC] at h3
    have h3b : (C == 0) = false := by simpa using h3
    clear h1 h2 h3 h4 hC
    go_enter Try.func6, Try.ntmps6
    go_wp2_with fail
    refine (decomp_any r _).mono ?_
    rw [← HD.out]
    rintro e w1 ⟨⟨v1, rfl, hv1⟩, hB1⟩
    obtain ⟨b1, o1, c1, rfl, d0, d1⟩ : ∃ b o c, v1 = .slice (some ⟨b, o, none⟩) 2 c ∧ w1.cell? ⟨b, o, none⟩ = some (.int .i32 p) ∧ w1.cell? ⟨b, o + 1, none⟩ = some (.int .i32 q) := by
      obtain ⟨a, c, rfl, _, h⟩ := hv1
      obtain ⟨b, o, rfl, g⟩ := h (by simp)
      exact ⟨b, o, c, rfl, g 0 (by simp), g 1 (by simp)⟩
    clear hv1 HD
    have hne : Nonempty (Later w1) := ⟨⟨w1, Below.refl _ _⟩⟩
    have hcall : Hid (∀ W : World, Calls Try.prog 9 #[.int .i32 p, .int .i32 q] W fun e w' => e = .returned (.tuple #[.int .i32 r, .bool true]) ∧ Below W.heap.size W w') := fun W => by
      have hq := pair_any p q W
      rw [HF.out.1] at hq
      exact hq
    have x0 : ∀ x : Later w1, x.W.cell? ⟨b1, o1, none⟩ = some (.int .i32 p) := fun x => (x.h.cell (p := ⟨b1, o1, none⟩) (lt_of_cell d0)).trans d0
    have x1 : ∀ x : Later w1, x.W.cell? ⟨b1, o1 + 1, none⟩ = some (.int .i32 q) := fun x => (x.h.cell (p := ⟨b1, o1 + 1, none⟩) (lt_of_cell d1)).trans d1
    go_wp2_with fail
    refine wp_region_quiet_in (by kernel_rfl) (by kernel_rfl) ?_
    repeat (go_big_quiet_step ((go_at_call 9; exact Later.call _ (hcall.out _))))
    refine wpQuiet_nil ?_
    rintro _ ⟨x, rfl⟩
    have y0 := x0 x
    have y1 := x1 x
    have hB2 : Below w.heap.size w x.W := hB1.trans (x.h.mono hB1.size)
    obtain ⟨w2, hw2⟩ : ∃ w2, w2 = x.W := ⟨_, rfl⟩
    rw [← hw2] at y0 y1 hB2 ⊢
    clear hw2 x x0 x1 hne d0 d1 hB1 hcall
    go_wp2_with fail
    refine (class_any p _).mono ?_
    rw [HF.out.2.1]
    rintro e w3 ⟨rfl, hb3⟩
    have hB3 := hB2.trans (hb3.mono hB2.size)
    have z1 : w3.cell? ⟨b1, o1 + 1, none⟩ = some (.int .i32 q) := (hb3.cell (p := ⟨b1, o1 + 1, none⟩) (lt_of_cell y1)).trans y1
    clear hb3 hB2 y0 y1
    go_wp2_with fail
    refine (class_any q _).mono ?_
    rw [← HC.out]
    rintro e w4 ⟨rfl, hb4⟩
    have hB4 := hB3.trans (hb4.mono hB3.size)
    clear hb4 hB3 z1
    go_wp2_with fail
    refine (class_any r _).mono ?_
    rw [HF.out.2.2]
    rintro e w5 ⟨rfl, hb5⟩
    have hB5 := hB4.trans (hb5.mono hB4.size)
    clear hb5 hB4
    go_wp2_with fail
    refine (pair_any a b _).mono ?_
    rcases HPC.out with hp | ⟨x, hp, hx⟩
    · have HP := hid' hp
      clear hp
      rw [HP.out]
      rintro e w6 ⟨rfl, hb6⟩
      have hB6 := hB5.trans (hb6.mono hB5.size)
      clear hb6 hB5
      go_wp2_with fail
      refine (works_any _).mono ?_
      rintro e w7 ⟨rfl, hb7⟩
      go_wp2
      go_ret
      exact ⟨rfl, hB6.trans (hb7.mono hB6.size)⟩
    · have HP := hid' hp
      have HX := hid' hx
      clear hp hx
      rw [HP.out]
      rintro e w6 ⟨rfl, hb6⟩
      have hB6 := hB5.trans (hb6.mono hB5.size)
      clear hb6 hB5
      go_wp2_with fail
      refine (decomp_any x _).mono ?_
      rw [HX.out]
      rintro e w7 ⟨⟨v7, rfl, hv7⟩, hb7⟩
      have hB7 := hB6.trans (hb7.mono hB6.size)
      clear hb7 hB6
      go_wp2_with fail
      refine (runes_same _ _ [a, b] (by simp) _ (hv7.below ((Below.refl _ _).alloc (Nat.le_refl _) _) (Nat.le_refl _)) (IntsAt.new2 _ _ _)).mono ?_
      rintro e w8 ⟨rfl, hb8⟩
      have hB8 : Below w.heap.size w w8 := (hB7.alloc hB7.size (.cells #[.int .i32 a, .int .i32 b] 21)).trans (hb8.mono (by have := hB7.size; simp; omega))
      clear hb8 hB7 hv7
      go_wp2_with fail
      refine (works_any _).mono ?_
      rintro e w9 ⟨rfl, hb9⟩
      go_wp2
      go_ret
      exact ⟨rfl, hB8.trans (hb9.mono hB8.size)⟩
end Go.Proofs.Ytiabdlgnblaglaa
