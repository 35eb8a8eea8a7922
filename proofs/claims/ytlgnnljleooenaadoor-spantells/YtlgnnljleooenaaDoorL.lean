/- The contract of Parse. -/
import Derived.Test.YtlgnnljleooenaaDoorK
import Derived.Test.YtlgnnljleooenaaDoorH
namespace Go.Proofs.YtlgnnljleooenaaDoor
open Go.RowKit
set_option linter.unusedVariables false

theorem rdS_true {l : List Int} {least : Int} {X Y : Int} {off : Nat} (h : rdS l least = ((X, Y), off, true)) : 1 ≤ off ∧ off ≤ l.length ∧ 0 ≤ X ∧ X ≤ Y ∧ Y ≤ 1114111 ∧ least ≤ X := by
  cases hB : rB l least with
  | false => rw [rdS_no hB] at h; simp at h
  | true =>
    obtain ⟨-, h0, h1, h2, h3, h4⟩ := rd_true hB
    have hdl : (l.drop (rK l least)).length = l.length - rK l least := List.length_drop
    cases hd : l.drop (rK l least) with
    | nil =>
      rw [rdS_end hB hd] at h
      simp only [Prod.mk.injEq] at h
      omega
    | cons c t =>
      rw [hd] at hdl
      simp only [List.length_cons] at hdl
      by_cases hc : c = 45
      · subst hc
        cases hB2 : rB t (rN l least + 1) with
        | false => rw [rdS_bad hB hd hB2] at h; simp at h
        | true =>
          obtain ⟨-, g0, g1, g2, g3, g4⟩ := rd_true hB2
          rw [rdS_good hB hd hB2] at h
          simp only [Prod.mk.injEq] at h
          omega
      · rw [rdS_other hB hd hc] at h
        simp only [Prod.mk.injEq] at h
        omega
theorem prs_no {f k : Nat} {l : List Int} {least X Y : Int} {off : Nat} {acc : List Sp} (h : rdS l least = ((X, Y), off, false)) : prs (f + 1) l k least acc = ([], k + off, 8) := by
  rw [prs, h]; rfl
theorem prs_end {f k : Nat} {l : List Int} {least X Y : Int} {off : Nat} {acc : List Sp} (h : rdS l least = ((X, Y), off, true)) (hd : l.drop off = []) : prs (f + 1) l k least acc = (acc ++ [(X, Y)], 0, 0) := by
  rw [prs, h]; dsimp only; rw [hd]; rfl
theorem prs_bad {f k : Nat} {l t : List Int} {least X Y c : Int} {off : Nat} {acc : List Sp} (h : rdS l least = ((X, Y), off, true)) (hd : l.drop off = c :: t) (hc : c ≠ 44 ∨ acc.length + 1 = 1024) : prs (f + 1) l k least acc = ([], k + off, 8) := by
  rw [prs, h]; dsimp only; rw [hd]; dsimp only; rw [if_neg (by simp), if_pos hc]
theorem prs_go {f k : Nat} {l t : List Int} {least X Y c : Int} {off : Nat} {acc : List Sp} (h : rdS l least = ((X, Y), off, true)) (hd : l.drop off = c :: t) (hc : ¬ (c ≠ 44 ∨ acc.length + 1 = 1024)) : prs (f + 1) l k least acc = prs f t (k + off + 1) (Y + 2) (acc ++ [(X, Y)]) := by
  rw [prs, h]; dsimp only; rw [hd]; dsimp only; rw [if_neg (by simp), if_neg hc]

def ParseAns (R : List Sp × Nat × Int) (w : World) (e : Ending) (W' : World) : Prop :=
  (∃ p k, e = .returned (.tuple #[.slice p R.1.length k, .int .i64 (R.2.1 : Int), .int .i64 R.2.2]) ∧ SpansAt W' (.slice p R.1.length k) R.1) ∧ Below w.heap.size w W'
theorem ParseAns.bad {R : List Sp × Nat × Int} {w W' : World} {E : Nat} (h : R = ([], E, 8)) (hb : Below w.heap.size w W') : ParseAns R w (.returned (.tuple #[.slice none 0 0, .int .i64 (E : Int), .int .i64 8])) W' := by
  subst h; exact ⟨⟨none, 0, rfl, SpansAt.nil _⟩, hb⟩

set_option maxRecDepth 100000 in
set_option maxHeartbeats 1600000 in
theorem parse_any (s : ByteArray) (hs : s.size ≤ 1099511627776) (w : World) :
    Calls Tryd.prog 27 #[.string s] w fun e W' => ParseAns (parse (bn s)) w e W' := by
  by_cases h0 : s.size = 0
  · have he := isEmpty_true s h0
    have HP : Hid (parse (bn s) = ([], 0, 0)) := by show _ = _; unfold parse; rw [bn_length, if_pos h0]
    clear h0
    go_enter Tryd.func27, Tryd.ntmps27
    go_wp2
    go_ret3
    rw [HP.out]
    exact ⟨⟨none, 0, rfl, SpansAt.nil _⟩, Below.refl _ _⟩
  · have he := isEmpty_false s (by omega)
    have hp0 : 0 < s.size := by omega
    have HP : Hid (parse (bn s) = prs (s.size + 1) ((bn s).drop 0) 0 0 []) := by show _ = _; unfold parse; rw [bn_length, if_neg h0]; rfl
    clear h0
    obtain ⟨R, hR⟩ : ∃ R, R = parse (bn s) := ⟨_, rfl⟩
    rw [← hR] at HP ⊢
    clear hR
    go_enter Tryd.func27, Tryd.ntmps27
    go_wp2_with fail
    go_loopw [2, 3, 5] (fun v2 a l wr => ∃ (k f : Nat) (least : Int) (acc : List Sp), a = .int .i64 k ∧ l = .int .i32 least ∧ k ≤ s.size ∧ s.size - k < f ∧ acc.length < 1024 ∧ wr.ownsRow w.heap.size 44 2 v2 acc.length (flat2 acc) ∧ Hid (R = prs f ((bn s).drop k) k least acc) ∧ Below w.heap.size w wr)
      (fun _ a _ _ => s.size - (intOf a).toNat)
    case atStart => exact ⟨0, s.size + 1, 0, [], rfl, rfl, Nat.zero_le _, by omega, by simp, World.ownsRow_nil _ _ _ _, HP, Below.refl _ _⟩
    case round =>
      obtain ⟨k, f, least, acc, rfl, rfl, hk, hf, hacc, hrow, HR, hB⟩ := hrel
      clear HP
      obtain ⟨f', rfl⟩ : ∃ f', f = f' + 1 := ⟨f - 1, by omega⟩
      obtain ⟨X, Y, off, ok, HS⟩ : ∃ X Y off ok, Hid (rdS ((bn s).drop k) least = ((X, Y), off, ok)) := ⟨_, _, _, _, rfl⟩
      obtain ⟨E, hE⟩ : ∃ E, E = k + off := ⟨_, rfl⟩
      have HE := hid' hE
      clear hE
      obtain ⟨pa, ca, rfl⟩ : ∃ p c, u2 = .slice p acc.length c := by obtain ⟨p, c, e, _⟩ := SpansAt.own rfl hrow; exact ⟨p, c, e⟩
      go_wp2_with fail
      refine (rspan_any s k least hs hk _).mono ?_
      unfold SpanR
      rw [HS.out]
      dsimp only
      rw [← HE.out]
      rintro e w1 ⟨rfl, hb1⟩
      have hB1 : Below w.heap.size w w1 := hB.trans (hb1.mono hB.size)
      have hrow1 := ownsRow_below hrow hb1 (Nat.le_refl _)
      clear hb1 hrow hB
      cases ok with
      | false =>
        have HF : Hid (R = ([], E, 8)) := by show _ = _; rw [HR.out, prs_no HS.out, HE.out]
        clear HR HS HE
        go_wp2
        go_ret3
        exact ParseAns.bad HF.out (hB1.alloc hB1.size _)
      | true =>
        obtain ⟨g1, g2, g3, g4, g5, g6⟩ := rdS_true HS.out
        rw [List.length_drop, bn_length] at g2
        have hEs : E ≤ s.size := by have := HE.out; omega
        have hEk : k < E := by have := HE.out; omega
        have HDR : Hid (((bn s).drop k).drop off = (bn s).drop E) := by show _ = _; rw [List.drop_drop, HE.out]
        clear g1 g2 g6
        have hZ : w.heap.size ≤ ((w1.alloc (.cells #[.int .i32 X, .int .i32 Y] 44)).alloc (.cells #[.int .i32 X, .int .i32 Y] 44)).heap.size := by have := hB1.size; simp; omega
        have hW : Below w.heap.size w ((w1.alloc (.cells #[.int .i32 X, .int .i32 Y] 44)).alloc (.cells #[.int .i32 X, .int .i32 Y] 44)) := (hB1.alloc hB1.size _).alloc (by have := hB1.size; simp; omega) _
        go_wp2_with ((at_builtin; refine wpList_append_spans rfl _ _ rfl w.heap.size _ _ acc rfl ((hrow1.alloc _).alloc _) _ [(X, Y)] rfl (SpansAt.new1 _ _ _ (w1.heap.size + 1) (by simp)) (by simp only [List.length_cons, List.length_nil]; omega) hZ ?_; intro v' w3 hown' hgrow'; refine Hid.out ?_))
        refine hid' ?_
        have hB3 := below_grow hW hZ ((hrow1.alloc _).alloc _) hgrow'
        have hc3 : w3.cell? ⟨w1.heap.size, 1, none⟩ = some (.int .i32 Y) := by
          rw [World.cell?_of_block (hgrow'.block w1.heap.size (by simp; omega) (fun e => by have := (hrow1.lt _ e.symm).2; omega))]
          simp
        have hown3 : w3.ownsRow w.heap.size 44 2 v' (acc.length + 1) (flat2 (acc ++ [(X, Y)])) := hown'
        obtain ⟨M, hM⟩ : ∃ M, M = acc.length + 1 := ⟨_, rfl⟩
        rw [← hM] at hown3
        have hl : (acc ++ [(X, Y)]).length = M := by rw [hM]; simp
        obtain ⟨pb, cb, rfl⟩ : ∃ p c, v' = .slice p M c := by
          obtain ⟨p, c, e, _⟩ := SpansAt.own hl.symm hown3; exact ⟨p, c, by rw [e, hl]⟩
        have HL := hid' hl
        have HM := hid' hM
        have hM9 : M ≤ 1024 := by omega
        clear hl hM
        clear hown' hgrow' hrow1 hZ hW
        by_cases hend : E = s.size
        · have hend' : ((E : Int) == (s.size : Int)) = true := by simp; omega
          have HF : Hid (R = (acc ++ [(X, Y)], 0, 0)) := by show _ = _; rw [HR.out, prs_end HS.out (by rw [HDR.out]; exact bn_drop_nil s E (by omega))]
          have HO := hid' hown3
          clear hend HR HS HE HDR hown3
          go_wp2
          go_ret3
          rw [HF.out]
          have hl := HL.out
          refine ⟨⟨pb, cb, by simp only [hl]; rfl, ?_⟩, hB3⟩
          have := SpansAt.own hl.symm HO.out
          simp only [hl]
          exact this
        · have hend' : ((E : Int) == (s.size : Int)) = false := by simp; omega
          have hlt : E < s.size := by omega
          have hlt' : (E : Int) < (s.size : Int) := by omega
          have HC := hid' (bn_drop s E hlt)
          clear hend
          by_cases hc : (s[E].toNat : Int) = 44
          · have hcb : ((s[E].toNat : Int) == 44) = true := by simpa using hc
            have hcb2 : ((s[E].toNat : Int) != 44) = false := by simpa using hc
            by_cases hfull : acc.length + 1 = 1024
            · have HF : Hid (R = ([], E, 8)) := by show _ = _; rw [HR.out, prs_bad HS.out (by rw [HDR.out]; exact HC.out) (.inr hfull), HE.out]
              have hfb : ((M : Int) == 1024) = true := by have := HM.out; simp; omega
              clear HR HS HE HDR HC hc hown3 hfull
              go_wp2
              go_ret3
              exact ParseAns.bad HF.out hB3
            · have HF : Hid (R = prs f' ((bn s).drop (E + 1)) (E + 1) (Y + 2) (acc ++ [(X, Y)])) := by
                show _ = _
                rw [HR.out, prs_go HS.out (by rw [HDR.out]; exact HC.out) (by intro h; rcases h with h | h; exact h hc; exact hfull h), HE.out]
              have hfb : ((M : Int) == 1024) = false := by have := HM.out; simp; omega
              have hM8 : M < 1024 := by have := HM.out; omega
              have HO := hid' hown3
              clear HR HS HE HDR HC hc hown3 hfull
              go_wp2_with fail
              go_quiet (fail)
              go_wp2
              go_roundw
              case rel => exact ⟨E + 1, f', _, acc ++ [(X, Y)], by go_num, rfl, by omega, by omega, by have := HL.out; have := HM.out; omega, by rw [HL.out]; exact HO.out, HF, below_drewN hB3 _⟩
              case measure => simp [intOf]; omega
          · have hcb : ((s[E].toNat : Int) == 44) = false := by simpa using hc
            have HF : Hid (R = ([], E, 8)) := by show _ = _; rw [HR.out, prs_bad HS.out (by rw [HDR.out]; exact HC.out) (.inl hc), HE.out]
            clear HR HS HE HDR HC hown3
            go_wp2
            go_ret3
            exact ParseAns.bad HF.out hB3
end Go.Proofs.YtlgnnljleooenaaDoor
