/- Texts of one layer, one behind the other: DS. -/
import Derived.Test.YtpkegjbmnilmdaaDoorZD4
/- The contracts of the document's Map, Pair and Decomp. -/
namespace Go.Proofs.YtpkegjbmnilmdaaDoor.D
open Go.RowKit Go.Lib Go.Sort Go.Shelf
set_option linter.unusedVariables false

theorem Ans.one' {l : List Int} {w W : World} {o : Obj} {a : Int} (h : l = [a]) (hb : Below w.heap.size w W) : Ans l w (.returned (.slice (some ⟨W.heap.size + 1, 0, none⟩) 1 1)) ((W.alloc o).alloc (.cells #[.int .i32 a] 21)) := by
  have := Ans.one (W := W.alloc o) h (hb.alloc hb.size o)
  rwa [World.size_alloc] at this
theorem Ans.two' {l : List Int} {w W : World} {o : Obj} {a b : Int} (h : l = [a, b]) (hb : Below w.heap.size w W) : Ans l w (.returned (.slice (some ⟨W.heap.size + 1, 0, none⟩) 2 2)) ((W.alloc o).alloc (.cells #[.int .i32 a, .int .i32 b] 21)) := by
  have := Ans.two (W := W.alloc o) h (hb.alloc hb.size o)
  rwa [World.size_alloc] at this

set_option maxRecDepth 100000 in
set_option maxHeartbeats 1600000 in
theorem rpair_any (a b : Int) (w : World) : Calls Tryd.prog 54 #[.int .i32 a, .int .i32 b] w fun e W' => e = .returned (.tuple #[.int .i32 (prf ptab a b).1, .bool (prf ptab a b).2]) ∧ Below w.heap.size w W' := by
  obtain ⟨⟨R1, R2⟩, hR⟩ : ∃ R, R = prf ptab a b := ⟨_, rfl⟩
  have HR0 : Hid (prf (ptab.drop 0) a b = (R1, R2)) := hR.symm
  rw [← hR]
  clear hR
  dsimp only
  go_enter Tryd.func54, Tryd.ntmps54
  go_wp2_with fail
  refine (pairs_any _).mono ?_
  rintro e w1 ⟨⟨v, rfl, hown⟩, hB1⟩
  obtain ⟨g, cap, rfl⟩ : ∃ g cap, v = .slice (some ⟨g, 0, none⟩) 80 cap := by
    rcases hown.2 with ⟨_, h⟩ | ⟨g, cap, cur, rfl, _⟩
    · omega
    · exact ⟨g, cap, rfl⟩
  have HC : Hid (∀ k i, k < 80 → i < 3 → w1.cell? ⟨g, k * 3 + i, none⟩ = (cells3 (ptab[k]?.getD z3))[i]?) := by
    intro k i hk hi
    rw [hown.cellAt (k * 3 + i) (by omega), flat3_get ptab k i (by rw [ptab_len]; omega) hi]
  clear hown
  go_wp2_with fail
  go_loop [7] (fun i => ∃ k : Nat, k ≤ 80 ∧ i = .int .i64 k ∧ Hid (prf (ptab.drop k) a b = (R1, R2))) (fun i => 80 - (intOf i).toNat)
  case atStart => exact ⟨0, by omega, rfl, HR0⟩
  case round =>
    obtain ⟨k, hk, rfl, HR⟩ := hrel
    clear HR0
    by_cases hlt : k < 80
    · have hlt' : (k : Int) < 80 := by omega
      obtain ⟨x, hx⟩ : ∃ x, x = ptab[k]?.getD z3 := ⟨_, rfl⟩
      have hcells := fun i hi => HC.out k i hlt hi
      rw [← hx] at hcells
      have hhit := @prf_hit ptab k a b (by rw [ptab_len]; exact hlt)
      have hmiss := @prf_miss ptab k a b (by rw [ptab_len]; exact hlt)
      rw [← hx] at hhit hmiss
      obtain ⟨x0, x1, x2⟩ := x
      have c0 : w1.cell? ⟨g, k * 3, none⟩ = some (.int .i32 x0) := hcells 0 (by omega)
      have c1 : w1.cell? ⟨g, k * 3 + 1, none⟩ = some (.int .i32 x1) := hcells 1 (by omega)
      have c2 : w1.cell? ⟨g, k * 3 + 2, none⟩ = some (.int .i32 x2) := hcells 2 (by omega)
      dsimp only at hhit hmiss
      have HH := hid' hhit
      have HM := hid' hmiss
      clear hx hhit hmiss hcells
      by_cases h1 : x1 = a
      · have h1b : (x1 == a) = true := by simpa using h1
        by_cases h2 : x2 = b
        · have h2b : (x2 == b) = true := by simpa using h2
          have HE : Hid (R1 = x0 ∧ R2 = true) := by
            have := HR.out
            rw [HH.out ⟨h1, h2⟩] at this
            cases this; exact ⟨rfl, rfl⟩
          clear HR HH HM h1 h2
          go_wp2
          go_ret2
          exact ⟨by rw [HE.out.1, HE.out.2]; rfl, hB1⟩
        · have h2b : (x2 == b) = false := by simpa using h2
          have HE : Hid (prf (ptab.drop (k + 1)) a b = (R1, R2)) := by show _ = _; rw [← HM.out (fun h => h2 h.2)]; exact HR.out
          clear HR HH HM h1 h2
          go_wp2
          go_round
          case rel => exact ⟨k + 1, by omega, by go_num, HE⟩
          case measure => simp [intOf]; omega
      · have h1b : (x1 == a) = false := by simpa using h1
        have HE : Hid (prf (ptab.drop (k + 1)) a b = (R1, R2)) := by show _ = _; rw [← HM.out (fun h => h1 h.1)]; exact HR.out
        clear HR HH HM h1
        go_wp2
        go_round
        case rel => exact ⟨k + 1, by omega, by go_num, HE⟩
        case measure => simp [intOf]; omega
    · have hlt' : ¬ (k : Int) < 80 := by omega
      have HE : Hid (R1 = 0 ∧ R2 = false) := by
        have := HR.out
        rw [prf_end (by rw [ptab_len]; omega)] at this
        cases this; exact ⟨rfl, rfl⟩
      clear HR
      go_wp2
      go_ret2
      exact ⟨by rw [HE.out.1, HE.out.2]; rfl, hB1⟩

/-- What the document takes a code point apart into, from this pair on. -/
def rdc (d : List Tri) (r : Int) : List Int := match d.find? (fun x => x.1 == r) with
  | some p => [p.2.1, p.2.2]
  | none => if sgl r ≠ 0 then [sgl r] else []
theorem rdc_hit {d : List Tri} {k : Nat} {r : Int} (hk : k < d.length) (h : (d[k]?.getD z3).1 = r) : rdc (d.drop k) r = [(d[k]?.getD z3).2.1, (d[k]?.getD z3).2.2] := by
  rw [List.drop_eq_getElem_cons hk]
  rw [List.getElem?_eq_getElem hk] at h ⊢
  simp only [Option.getD_some] at h ⊢
  unfold rdc
  rw [List.find?_cons_of_pos (by simp [h])]
theorem rdc_miss {d : List Tri} {k : Nat} {r : Int} (hk : k < d.length) (h : ¬ (d[k]?.getD z3).1 = r) : rdc (d.drop k) r = rdc (d.drop (k + 1)) r := by
  rw [List.drop_eq_getElem_cons hk]
  rw [List.getElem?_eq_getElem hk] at h
  simp only [Option.getD_some] at h
  unfold rdc
  rw [List.find?_cons_of_neg (by simpa using h)]
theorem rdc_end {d : List Tri} {k : Nat} {r : Int} (hk : d.length ≤ k) : rdc (d.drop k) r = if sgl r ≠ 0 then [sgl r] else [] := by
  rw [List.drop_of_length_le hk]; rfl

set_option maxRecDepth 100000 in
set_option maxHeartbeats 1600000 in
theorem rdecomp_any (r : Int) (w : World) : Calls Tryd.prog 58 #[.int .i32 r] w fun e W' => Ans (rdcp r) w e W' := by
  obtain ⟨L, hL⟩ : ∃ L, L = rdcp r := ⟨_, rfl⟩
  have HR0 : Hid (rdc (ptab.drop 0) r = L) := hL.symm
  rw [← hL]
  clear hL
  go_enter Tryd.func58, Tryd.ntmps58
  go_wp2_with fail
  refine (pairs_any _).mono ?_
  rintro e w1 ⟨⟨v, rfl, hown⟩, hB1⟩
  obtain ⟨g, cap, rfl⟩ : ∃ g cap, v = .slice (some ⟨g, 0, none⟩) 80 cap := by
    rcases hown.2 with ⟨_, h⟩ | ⟨g, cap, cur, rfl, _⟩
    · omega
    · exact ⟨g, cap, rfl⟩
  have HC : Hid (∀ k i, k < 80 → i < 3 → w1.cell? ⟨g, k * 3 + i, none⟩ = (cells3 (ptab[k]?.getD z3))[i]?) := by
    intro k i hk hi
    rw [hown.cellAt (k * 3 + i) (by omega), flat3_get ptab k i (by rw [ptab_len]; omega) hi]
  clear hown
  go_wp2_with fail
  go_loop [4] (fun i => ∃ k : Nat, k ≤ 80 ∧ i = .int .i64 k ∧ Hid (rdc (ptab.drop k) r = L)) (fun i => 80 - (intOf i).toNat)
  case atStart => exact ⟨0, by omega, rfl, HR0⟩
  case round =>
    obtain ⟨k, hk, rfl, HR⟩ := hrel
    clear HR0
    by_cases hlt : k < 80
    · have hlt' : (k : Int) < 80 := by omega
      obtain ⟨x, hx⟩ : ∃ x, x = ptab[k]?.getD z3 := ⟨_, rfl⟩
      have hcells := fun i hi => HC.out k i hlt hi
      rw [← hx] at hcells
      have hhit := @rdc_hit ptab k r (by rw [ptab_len]; exact hlt)
      have hmiss := @rdc_miss ptab k r (by rw [ptab_len]; exact hlt)
      rw [← hx] at hhit hmiss
      obtain ⟨x0, x1, x2⟩ := x
      have c0 : w1.cell? ⟨g, k * 3, none⟩ = some (.int .i32 x0) := hcells 0 (by omega)
      have c1 : w1.cell? ⟨g, k * 3 + 1, none⟩ = some (.int .i32 x1) := hcells 1 (by omega)
      have c2 : w1.cell? ⟨g, k * 3 + 2, none⟩ = some (.int .i32 x2) := hcells 2 (by omega)
      dsimp only at hhit hmiss
      have HH := hid' hhit
      have HM := hid' hmiss
      clear hx hhit hmiss hcells
      by_cases h1 : x0 = r
      · have h1b : (x0 == r) = true := by simpa using h1
        have HE : Hid (L = [x1, x2]) := by show _ = _; rw [← HR.out, HH.out h1]
        clear HR HH HM h1
        go_wp2
        go_region
        all_goals go_wp2
        all_goals go_ret
        all_goals exact Ans.two (W := w1.drewN 1) HE.out (below_drewN hB1 _)
      · have h1b : (x0 == r) = false := by simpa using h1
        have HE : Hid (rdc (ptab.drop (k + 1)) r = L) := by show _ = _; rw [← HM.out h1]; exact HR.out
        clear HR HH HM h1
        go_wp2
        go_round
        case rel => exact ⟨k + 1, by omega, by go_num, HE⟩
        case measure => simp [intOf]; omega
    · have hlt' : ¬ (k : Int) < 80 := by omega
      have HE : Hid (L = if sgl r ≠ 0 then [sgl r] else []) := by show _ = _; rw [← HR.out]; exact rdc_end (by rw [ptab_len]; omega)
      clear HR
      go_wp2
      all_goals go_ret
      all_goals first | refine Ans.one ?_ hB1 | refine Ans.nil ?_ hB1
      all_goals rw [HE.out]
      all_goals clear HE HC
      all_goals first | (rename_i h; obtain rfl := eq_of_beq h; rfl) | (simp [sgl, List.lookup, *]; done)
end Go.Proofs.YtpkegjbmnilmdaaDoor.D
