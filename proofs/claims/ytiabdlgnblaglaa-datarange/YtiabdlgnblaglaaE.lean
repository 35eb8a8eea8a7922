/- The contract of Map. -/
import Derived.Test.YtiabdlgnblaglaaD
namespace Go.Proofs.Ytiabdlgnblaglaa
open Go.RowKit Go.Lib Go.Sort Go.Shelf
set_option linter.unusedVariables false

theorem lookup_mem {α : Type} : ∀ {l : List (Int × α)} {r : Int} {v : α}, l.lookup r = some v → (r, v) ∈ l
  | [], r, v, h => by simp [List.lookup] at h
  | (a, b) :: l, r, v, h => by
    unfold List.lookup at h
    split at h
    · rename_i hb
      obtain rfl := eq_of_beq hb
      cases h
      exact List.mem_cons_self
    · exact List.mem_cons_of_mem _ (lookup_mem h)
theorem dist_bd (r : Int) : -65248 ≤ dist r ∧ dist r ≤ 80 := by
  unfold dist
  cases h : distT.lookup r with
  | none => simp
  | some v =>
    have hm := lookup_mem h
    have : ∀ p ∈ distT, -65248 ≤ p.2 ∧ p.2 ≤ 80 := by decide
    exact this _ hm
def tab : List Rw := latin ++ greek ++ hebrew ++ later
theorem pick_mem (d : List Rw) (r : Int) : pickR d r = zr ∨ (pickR d r ∈ d ∧ (pickR d r).1 ≤ r ∧ r ≤ (pickR d r).2.1) := by
  unfold pickR
  cases h : d.find? (inRow r) with
  | none => exact .inl rfl
  | some x =>
    refine .inr ⟨List.mem_of_find?_eq_some h, ?_⟩
    have := List.find?_some h
    simpa [inRow] using this
theorem fnd_mem (r : Int) : fnd r = zr ∨ (fnd r ∈ tab ∧ (fnd r).1 ≤ r ∧ r ≤ (fnd r).2.1) := by
  unfold fnd tab
  split
  · rcases pick_mem latin r with h | ⟨h, g⟩
    · exact .inl h
    · exact .inr ⟨by simp [h], g⟩
  · split
    · rcases pick_mem greek r with h | ⟨h, g⟩
      · exact .inl h
      · exact .inr ⟨by simp [h], g⟩
    · split
      · rcases pick_mem hebrew r with h | ⟨h, g⟩
        · exact .inl h
        · exact .inr ⟨by simp [h], g⟩
      · rcases pick_mem later r with h | ⟨h, g⟩
        · exact .inl h
        · exact .inr ⟨by simp [h], g⟩
theorem tab_bd : ∀ x ∈ tab, 0 ≤ x.1 ∧ x.2.1 ≤ 200000 ∧ 0 ≤ x.2.2.1 ∧ x.2.2.1 ≤ 4 := by decide
theorem fnd_bd {r : Int} (h : (fnd r).2.2.1 ≠ 0) : 0 ≤ r ∧ r ≤ 200000 := by
  rcases fnd_mem r with e | ⟨hm, h1, h2⟩
  · rw [e] at h; exact absurd rfl h
  · have := tab_bd _ hm
    omega

/-- What is answered of a mapped one. -/
def mpd (lo r : Int) : List Int := if dist lo ≠ 0 then [r + dist lo] else inst r
/-- What a code point is mapped to. -/
def mp (r : Int) : List Int := if (fnd r).2.2.1 = 0 ∨ (fnd r).2.2.1 = 2 then [] else if (fnd r).2.2.1 = 3 then mpd (fnd r).1 r else [r]

set_option maxRecDepth 100000 in
set_option maxHeartbeats 1600000 in
theorem mapped_any (lo r : Int) (h0 : 0 ≤ r) (h1 : r ≤ 200000) (w : World) : Calls Try.prog 29 #[.int .i32 lo, .int .i32 r] w fun e W' => Ans (mpd lo r) w e W' := by
  obtain ⟨L, hL⟩ : ∃ L, L = mpd lo r := ⟨_, rfl⟩
  have HL := hid' hL
  rw [← hL]
  clear hL
  obtain ⟨D, hD⟩ : ∃ D, D = dist lo := ⟨_, rfl⟩
  have hb := dist_bd lo
  rw [← hD] at hb
  have HD := hid' hD
  clear hD
  obtain ⟨hb1, hb2⟩ := hb
  by_cases hd0 : D = 0
  · have HL2 : Hid (L = inst r) := by show _ = _; rw [HL.out]; unfold mpd; rw [← HD.out, if_neg (by simpa using hd0)]
    subst hd0
    clear HL
    go_enter Try.func29, Try.ntmps29
    go_wp2_with fail
    refine (distance_any lo w).mono ?_
    rw [← HD.out]
    rintro e w1 ⟨rfl, rfl⟩
    go_wp2_with fail
    refine (instead_any r _).mono ?_
    rw [← HL2.out]
    rintro e w2 ⟨⟨v, rfl, hv⟩, hB⟩
    go_wp2
    go_ret
    exact ⟨⟨v, rfl, hv⟩, hB⟩
  · have HL2 : Hid (L = [r + D]) := by show _ = _; rw [HL.out]; unfold mpd; rw [← HD.out, if_pos hd0]
    have hdb : (D != 0) = true := by simpa using hd0
    have hdb2 : (D == 0) = false := by simpa using hd0
    clear HL
    go_enter Try.func29, Try.ntmps29
    go_wp2_with fail
    refine (distance_any lo w).mono ?_
    rw [← HD.out]
    rintro e w1 ⟨rfl, rfl⟩
    go_wp2
    go_ret
    exact Ans.one HL2.out (Below.refl _ _)

set_option maxRecDepth 100000 in
set_option maxHeartbeats 1600000 in
theorem map_any (r : Int) (w : World) : Calls Try.prog 18 #[.int .i32 r] w fun e W' => Ans (mp r) w e W' := by
  obtain ⟨L, hL⟩ : ∃ L, L = mp r := ⟨_, rfl⟩
  have HL := hid' hL
  rw [← hL]
  clear hL
  have hbd := @fnd_bd r
  have hcall := find_any r
  have hst : 0 ≤ (fnd r).2.2.1 ∧ (fnd r).2.2.1 ≤ 4 := by
    rcases fnd_mem r with e | ⟨hm, _⟩
    · rw [e]; decide
    · have := tab_bd _ hm; omega
  unfold mp at HL
  obtain ⟨⟨x0, x1, x2, x3, x4, x5, x6, x7⟩, hx⟩ : ∃ x, x = fnd r := ⟨_, rfl⟩
  rw [← hx] at hbd hcall hst HL
  dsimp only at hbd hst HL
  have HC := hid' hcall
  have HBD := hid' hbd
  clear hcall hx hbd
  have HI : Hid ((Try.prog.info? 46).map (·.size) = some 8) := by show _ = _; kernel_rfl
  go_enter Try.func18, Try.ntmps18
  go_wp2_with fail
  refine (HC.out _).mono ?_
  simp only [cells8]
  rintro e w1 ⟨rfl, hB1⟩
  clear HC
  go_wp2_with ((refine wpList_store_row rfl 46 (.tmp 3) (.tmp 5) rfl w1.heap.size #[.int .i32 x0, .int .i32 x1, .int .u8 x2, .int .u8 x3, .int .u8 x4, .int .u8 x5, .bool x6, .int .u8 x7] rfl rfl 46 _ (by exact heap_alloc_last w1 _) (by exact HI.out) (by rfl) (by kernel_rfl) (wpList_nil ?_); rw [World.setRow_alloc_new]))
  · rename_i h
    have h2 : x2 = 0 := eq_of_beq h
    go_ret
    exact Ans.nil (by rw [HL.out, if_pos (.inl h2)]) (hB1.alloc hB1.size _)
  · rename_i h
    have h2 : x2 = 2 := eq_of_beq h
    go_ret
    exact Ans.nil (by rw [HL.out, if_pos (.inr h2)]) (hB1.alloc hB1.size _)
  · have h3 : x2 = 3 := by
      apply eq_of_beq
      assumption
    have hr := HBD.out (by omega)
    have HL2 : Hid (L = mpd x0 r) := by show _ = _; rw [HL.out, if_neg (by omega), if_pos h3]
    have hB2 := hB1.alloc hB1.size (.cells #[.int .i32 x0, .int .i32 x1, .int .u8 x2, .int .u8 x3, .int .u8 x4, .int .u8 x5, .bool x6, .int .u8 x7] 46)
    refine (mapped_any x0 r hr.1 hr.2 _).mono ?_
    rw [← HL2.out]
    rintro e w2 ⟨⟨v, rfl, hv⟩, hB⟩
    have hB3 : Below w.heap.size w w2 := hB2.trans (hB.mono hB2.size)
    clear hB hB2 hB1 HL HL2 h3
    go_wp2
    go_ret
    exact ⟨⟨v, rfl, hv⟩, hB3⟩
  · have h0 : ¬ x2 = 0 := by intro h; subst h; simp_all
    have h2 : ¬ x2 = 2 := by intro h; subst h; simp_all
    have h3 : ¬ x2 = 3 := by intro h; subst h; simp_all
    go_ret
    have hL1 : L = [r] := by rw [HL.out, if_neg (by omega), if_neg h3]
    have := Ans.one (w := w) (W := w1.alloc (.cells #[.int .i32 x0, .int .i32 x1, .int .u8 x2, .int .u8 x3, .int .u8 x4, .int .u8 x5, .bool x6, .int .u8 x7] 46)) hL1 (hB1.alloc hB1.size _)
    rw [World.size_alloc] at this
    exact this
end Go.Proofs.Ytiabdlgnblaglaa
