/- The contract of the document's Parse. -/
import Derived.Test.YtlgnnljleooenaaDoorAe
import Derived.Test.YtlgnnljleooenaaDoorL
import Derived.Lib.IndexBytes
namespace Go.Proofs.YtlgnnljleooenaaDoor
open Go.RowKit
set_option linter.unusedVariables false

theorem bn_extract (s : ByteArray) (k : Nat) : bn (s.extract k s.size) = (bn s).drop k := by
  unfold bn; rw [Lib.extract_to_end, List.map_drop]
set_option maxRecDepth 100000 in
set_option maxHeartbeats 1600000 in
theorem rparse_any (s : ByteArray) (hs : s.size ≤ 1099511627776) (w : World) :
    Calls Tryd.prog 28 #[.string s] w fun e W' => ParseAns (parse (bn s)) w e W' := by
  by_cases h0 : s.size = 0
  · have he := isEmpty_true s h0
    have HP : Hid (parse (bn s) = ([], 0, 0)) := by show _ = _; unfold parse; rw [bn_length, if_pos h0]
    clear h0
    go_enter Tryd.func28, Tryd.ntmps28
    go_wp2
    go_ret3
    rw [HP.out]
    exact ⟨⟨none, 0, rfl, SpansAt.nil _⟩, Below.refl _ _⟩
  · have he := isEmpty_false s (by omega)
    have hp0 : 0 < s.size := by omega
    have HP : Hid (parse (bn s) = prs (s.size + 1) ((bn s).drop 0) 0 0 []) := by show _ = _; unfold parse; rw [bn_length, if_neg h0]; rfl
    clear h0
    obtain ⟨R, hR⟩ : ∃ R, R = parse (bn s) := ⟨_, rfl⟩
    rw [← hR] at HP ⊢
    clear hR
    go_enter Tryd.func28, Tryd.ntmps28
    go_wp2_with fail
    go_loopw [5, 6, 7] (fun v2 a l wr => ∃ (k f : Nat) (least : Int) (acc : List Sp), a = .int .i64 k ∧ l = .int .i32 least ∧ k ≤ s.size ∧ s.size - k < f ∧ acc.length < 1024 ∧ wr.ownsRow w.heap.size 44 2 v2 acc.length (flat2 acc) ∧ Hid (R = prs f ((bn s).drop k) k least acc) ∧ Below w.heap.size w wr)
      (fun _ a _ _ => s.size - (intOf a).toNat)
    case atStart => exact ⟨0, s.size + 1, 0, [], rfl, rfl, Nat.zero_le _, by omega, by simp, World.ownsRow_nil _ _ _ _, HP, Below.refl _ _⟩
    case round =>
      obtain ⟨k, f, least, acc, rfl, rfl, hk, hf, hacc, hrow, HR, hB⟩ := hrel
      clear HP
      obtain ⟨f', rfl⟩ : ∃ f', f = f' + 1 := ⟨f - 1, by omega⟩
      obtain ⟨lo, n, HN⟩ : ∃ lo n, Hid (numl 6 ((bn s).drop k) 0 0 = (lo, n)) := ⟨_, _, rfl⟩
      have hbd := numl_bd 6 ((bn s).drop k) 0 0 (by omega)
      rw [HN.out, List.length_drop, bn_length] at hbd
      obtain ⟨hlo0, -, hn1⟩ := hbd
      have hn2 : k + n ≤ s.size := by have : n ≤ 0 + (s.size - k) := hn1; omega
      have hlo : 0 ≤ lo := hlo0
      clear hn1 hlo0
      obtain ⟨pa, ca, rfl⟩ : ∃ p c, u5 = .slice p acc.length c := by obtain ⟨p, c, e, _⟩ := SpansAt.own rfl hrow; exact ⟨p, c, e⟩
      go_wp2_with fail
      refine (rnumber_any (s.extract k s.size) (by simp; omega) _).mono ?_
      rw [bn_extract, HN.out]
      rintro e w1 ⟨rfl, rfl⟩
      by_cases hbad : n = 0 ∨ lo < least ∨ 1114111 < lo
      · have HF : Hid (R = ([], k, 8)) := by show _ = _; rw [HR.out, prs_no (rdS_no (rd_bad HN.out hbad).2.2)]; rfl
        clear HR HN
        by_cases hn0 : n = 0
        · subst hn0
          clear hbad
          go_wp2
          go_ret3
          exact ParseAns.bad HF.out hB
        · have hn0' : ((n : Int) == 0) = false := by simp; omega
          have hnp : 0 < n := by omega
          by_cases hbig : 1114111 < lo
          · clear hbad
            go_wp2
            go_ret3
            exact ParseAns.bad HF.out hB
          · have hsm : lo < least := by omega
            clear hbad
            go_wp2
            go_ret3
            exact ParseAns.bad HF.out hB
      · have hn0' : ((n : Int) == 0) = false := by simp; omega
        have hnp : 0 < n := by omega
        have hl1 : lo ≤ 1114111 := by omega
        have hl2 : least ≤ lo := by omega
        obtain ⟨G1, G2, G3⟩ := rd_good HN.out hbad
        clear hbad HN
        have HB1 := hid' (And.intro G1 (And.intro G2 G3))
        clear G1 G2 G3
        obtain ⟨E, hE⟩ : ∃ E, E = k + n := ⟨_, rfl⟩
        have HE := hid' hE
        have hEI : (k : Int) + (n : Int) = (E : Int) := by omega
        have hEs : E ≤ s.size := by omega
        have hEk : k < E := by omega
        have HDR1 : Hid (((bn s).drop k).drop (rK ((bn s).drop k) least) = (bn s).drop E) := by show _ = _; rw [List.drop_drop, HB1.out.2.1, HE.out]
        clear hE hn2 hnp
        by_cases hend0 : E = s.size
        · have HS : Hid (rdS ((bn s).drop k) least = ((lo, lo), n, true)) := by
            have := rdS_end HB1.out.2.2 (by rw [HDR1.out]; exact bn_drop_nil s E (by omega))
            rw [HB1.out.1, HB1.out.2.1] at this
            exact this
          have hnlt : ¬ (E : Int) < (s.size : Int) := by omega
          clear HB1 HDR1 hend0
          have HDR : Hid (((bn s).drop k).drop (n) = (bn s).drop E) := by show _ = _; rw [List.drop_drop, HE.out]
          have hZ : w.heap.size ≤ (w1.alloc (.cells #[.int .i32 lo, .int .i32 lo] 44)).heap.size := by have := hB.size; simp; omega
          have hW : Below w.heap.size w (w1.alloc (.cells #[.int .i32 lo, .int .i32 lo] 44)) := hB.alloc hB.size _
          go_wp2_with ((at_builtin; refine wpList_append_spans rfl _ _ rfl w.heap.size _ _ acc rfl (hrow.alloc _) _ [(lo, lo)] rfl (SpansAt.new1 _ _ _ w1.heap.size (by simp)) (by simp only [List.length_cons, List.length_nil]; omega) hZ ?_; intro v' w3 hown' hgrow'; refine Hid.out ?_))
          refine hid' ?_
          have hB3 := below_grow hW hZ (hrow.alloc _) hgrow'
          have hown3 : w3.ownsRow w.heap.size 44 2 v' (acc.length + 1) (flat2 (acc ++ [(lo, lo)])) := hown'
          obtain ⟨M, hM⟩ : ∃ M, M = acc.length + 1 := ⟨_, rfl⟩
          rw [← hM] at hown3
          have hl : (acc ++ [(lo, lo)]).length = M := by rw [hM]; simp
          obtain ⟨pb, cb, rfl⟩ : ∃ p c, v' = .slice p M c := by
            obtain ⟨p, c, e, _⟩ := SpansAt.own hl.symm hown3; exact ⟨p, c, by rw [e, hl]⟩
          have HL := hid' hl
          have HM := hid' hM
          have hM9 : M ≤ 1024 := by omega
          clear hl hM
          clear hown' hgrow' hrow hZ hW
          by_cases hend : E = s.size
          · have hend' : ((E : Int) == (s.size : Int)) = true := by simp; omega
            have HF : Hid (R = (acc ++ [(lo, lo)], 0, 0)) := by show _ = _; rw [HR.out, prs_end HS.out (by rw [HDR.out]; exact bn_drop_nil s E (by omega))]
            have HO := hid' hown3
            clear hend HR HS HE HDR hown3
            go_wp2
            go_ret3
            rw [HF.out]
            have hl := HL.out
            refine ⟨⟨pb, cb, by simp only [hl]; rfl, ?_⟩, hB3⟩
            have := SpansAt.own hl.symm HO.out
            simp only [hl]
            exact this
          · have hend' : ((E : Int) == (s.size : Int)) = false := by simp; omega
            have hlt : E < s.size := by omega
            have hlt' : (E : Int) < (s.size : Int) := by omega
            have HC := hid' (bn_drop s E hlt)
            clear hend
            by_cases hc : (s[E].toNat : Int) = 44
            · have hcb : ((s[E].toNat : Int) == 44) = true := by simpa using hc
              have hcb2 : ((s[E].toNat : Int) != 44) = false := by simpa using hc
              by_cases hfull : acc.length + 1 = 1024
              · have HF : Hid (R = ([], E, 8)) := by show _ = _; rw [HR.out, prs_bad HS.out (by rw [HDR.out]; exact HC.out) (.inr hfull), HE.out]
                have hfb : ((M : Int) == 1024) = true := by have := HM.out; simp; omega
                clear HR HS HE HDR HC hc hown3 hfull
                go_wp2
                go_ret3
                exact ParseAns.bad HF.out hB3
              · have HF : Hid (R = prs f' ((bn s).drop (E + 1)) (E + 1) (lo + 2) (acc ++ [(lo, lo)])) := by
                  show _ = _
                  rw [HR.out, prs_go HS.out (by rw [HDR.out]; exact HC.out) (by intro h; rcases h with h | h; exact h hc; exact hfull h), HE.out]
                have hfb : ((M : Int) == 1024) = false := by have := HM.out; simp; omega
                have hM8 : M < 1024 := by have := HM.out; omega
                have HO := hid' hown3
                clear HR HS HE HDR HC hc hown3 hfull
                go_wp2
                go_roundw
                case rel => exact ⟨E + 1, f', _, acc ++ [(lo, lo)], by go_num, rfl, by omega, by omega, by have := HL.out; have := HM.out; omega, by rw [HL.out]; exact HO.out, HF, hB3⟩
                case measure => simp [intOf]; omega
            · have hcb : ((s[E].toNat : Int) == 44) = false := by simpa using hc
              have HF : Hid (R = ([], E, 8)) := by show _ = _; rw [HR.out, prs_bad HS.out (by rw [HDR.out]; exact HC.out) (.inl hc), HE.out]
              clear HR HS HE HDR HC hown3
              go_wp2
              go_ret3
              exact ParseAns.bad HF.out hB3
        · have hlt0 : E < s.size := by omega
          have hlt0' : (E : Int) < (s.size : Int) := by omega
          have HC0 := hid' (bn_drop s E hlt0)
          by_cases hc0 : (s[E].toNat : Int) = 45
          · have hcb0 : ((s[E].toNat : Int) == 45) = true := by simpa using hc0
            have HC45 : Hid ((bn s).drop E = 45 :: (bn s).drop (E + 1)) := by show _ = _; rw [HC0.out, hc0]
            obtain ⟨x, n2, HN2⟩ : ∃ lo n, Hid (numl 6 ((bn s).drop (E + 1)) 0 0 = (lo, n)) := ⟨_, _, rfl⟩
            have hbd := numl_bd 6 ((bn s).drop (E + 1)) 0 0 (by omega)
            rw [HN2.out, List.length_drop, bn_length] at hbd
            obtain ⟨hlo0, -, hn1⟩ := hbd
            have hn22 : E + 1 + n2 ≤ s.size := by have : n2 ≤ 0 + (s.size - (E + 1)) := hn1; omega
            have hx0 : 0 ≤ x := hlo0
            clear hn1 hlo0 hend0 HC0 hc0
            go_wp2_with fail
            refine (rnumber_any (s.extract (E + 1) s.size) (by simp; omega) _).mono ?_
            rw [bn_extract, HN2.out]
            rintro e w1 ⟨rfl, rfl⟩
            by_cases hbad : n2 = 0 ∨ x < lo + 1 ∨ 1114111 < x
            · have HF : Hid (R = ([], E + 1, 8)) := by
                show _ = _
                rw [HR.out, prs_no (rdS_bad HB1.out.2.2 (by rw [HDR1.out]; exact HC45.out) (by rw [HB1.out.1]; exact (rd_bad HN2.out hbad).2.2)), HB1.out.2.1, HE.out]; rfl
              clear HR HN2 HB1 HDR1 HC45 HE
              by_cases hn0 : n2 = 0
              · subst hn0
                clear hbad
                go_wp2
                go_ret3
                exact ParseAns.bad (E := E + 1) HF.out hB
              · have hn20 : ((n2 : Int) == 0) = false := by simp; omega
                have hnp : 0 < n2 := by omega
                by_cases hbig : 1114111 < x
                · clear hbad
                  go_wp2
                  go_ret3
                  exact ParseAns.bad (E := E + 1) HF.out hB
                · have hsm : x ≤ lo := by omega
                  clear hbad
                  go_wp2
                  go_ret3
                  exact ParseAns.bad (E := E + 1) HF.out hB
            · have hn20 : ((n2 : Int) == 0) = false := by simp; omega
              have hnp2 : 0 < n2 := by omega
              have hx1 : x ≤ 1114111 := by omega
              have hx2 : lo < x := by omega
              obtain ⟨G1, G2, G3⟩ := rd_good HN2.out hbad
              have HS : Hid (rdS ((bn s).drop k) least = ((lo, x), n + 1 + n2, true)) := by
                have := rdS_good HB1.out.2.2 (by rw [HDR1.out]; exact HC45.out) (by rw [HB1.out.1]; exact G3)
                rw [HB1.out.1, HB1.out.2.1, G1, G2] at this
                exact this
              clear hbad HN2 G1 G2 G3 HB1 HDR1 HC45
              have HE1 := HE
              clear HE hEs hEk
              obtain ⟨G, hG⟩ : ∃ G, G = E + 1 + n2 := ⟨_, rfl⟩
              have HE : Hid (G = k + (n + 1 + n2)) := by show _ = _; have := HE1.out; omega
              have hEI2 : (E : Int) + 1 + (n2 : Int) = (G : Int) := by omega
              have hEs : G ≤ s.size := by omega
              have hEk : k < G := by have := HE1.out; omega
              clear hG HE1 hn22
              have HDR : Hid (((bn s).drop k).drop (n + 1 + n2) = (bn s).drop G) := by show _ = _; rw [List.drop_drop, HE.out]
              have hZ : w.heap.size ≤ (w1.alloc (.cells #[.int .i32 lo, .int .i32 x] 44)).heap.size := by have := hB.size; simp; omega
              have hW : Below w.heap.size w (w1.alloc (.cells #[.int .i32 lo, .int .i32 x] 44)) := hB.alloc hB.size _
              go_wp2_with ((at_builtin; refine wpList_append_spans rfl _ _ rfl w.heap.size _ _ acc rfl (hrow.alloc _) _ [(lo, x)] rfl (SpansAt.new1 _ _ _ w1.heap.size (by simp)) (by simp only [List.length_cons, List.length_nil]; omega) hZ ?_; intro v' w3 hown' hgrow'; refine Hid.out ?_))
              refine hid' ?_
              have hB3 := below_grow hW hZ (hrow.alloc _) hgrow'
              have hown3 : w3.ownsRow w.heap.size 44 2 v' (acc.length + 1) (flat2 (acc ++ [(lo, x)])) := hown'
              obtain ⟨M, hM⟩ : ∃ M, M = acc.length + 1 := ⟨_, rfl⟩
              rw [← hM] at hown3
              have hl : (acc ++ [(lo, x)]).length = M := by rw [hM]; simp
              obtain ⟨pb, cb, rfl⟩ : ∃ p c, v' = .slice p M c := by
                obtain ⟨p, c, e, _⟩ := SpansAt.own hl.symm hown3; exact ⟨p, c, by rw [e, hl]⟩
              have HL := hid' hl
              have HM := hid' hM
              have hM9 : M ≤ 1024 := by omega
              clear hl hM
              clear hown' hgrow' hrow hZ hW
              by_cases hend : G = s.size
              · have hend' : ((G : Int) == (s.size : Int)) = true := by simp; omega
                have HF : Hid (R = (acc ++ [(lo, x)], 0, 0)) := by show _ = _; rw [HR.out, prs_end HS.out (by rw [HDR.out]; exact bn_drop_nil s G (by omega))]
                have HO := hid' hown3
                clear hend HR HS HE HDR hown3
                go_wp2
                go_ret3
                rw [HF.out]
                have hl := HL.out
                refine ⟨⟨pb, cb, by simp only [hl]; rfl, ?_⟩, hB3⟩
                have := SpansAt.own hl.symm HO.out
                simp only [hl]
                exact this
              · have hend' : ((G : Int) == (s.size : Int)) = false := by simp; omega
                have hlt : G < s.size := by omega
                have hlt' : (G : Int) < (s.size : Int) := by omega
                have HC := hid' (bn_drop s G hlt)
                clear hend
                by_cases hc : (s[G].toNat : Int) = 44
                · have hcb : ((s[G].toNat : Int) == 44) = true := by simpa using hc
                  have hcb2 : ((s[G].toNat : Int) != 44) = false := by simpa using hc
                  by_cases hfull : acc.length + 1 = 1024
                  · have HF : Hid (R = ([], G, 8)) := by show _ = _; rw [HR.out, prs_bad HS.out (by rw [HDR.out]; exact HC.out) (.inr hfull), HE.out]
                    have hfb : ((M : Int) == 1024) = true := by have := HM.out; simp; omega
                    clear HR HS HE HDR HC hc hown3 hfull
                    go_wp2
                    go_ret3
                    exact ParseAns.bad HF.out hB3
                  · have HF : Hid (R = prs f' ((bn s).drop (G + 1)) (G + 1) (x + 2) (acc ++ [(lo, x)])) := by
                      show _ = _
                      rw [HR.out, prs_go HS.out (by rw [HDR.out]; exact HC.out) (by intro h; rcases h with h | h; exact h hc; exact hfull h), HE.out]
                    have hfb : ((M : Int) == 1024) = false := by have := HM.out; simp; omega
                    have hM8 : M < 1024 := by have := HM.out; omega
                    have HO := hid' hown3
                    clear HR HS HE HDR HC hc hown3 hfull
                    go_wp2
                    go_roundw
                    case rel => exact ⟨G + 1, f', _, acc ++ [(lo, x)], by go_num, rfl, by omega, by omega, by have := HL.out; have := HM.out; omega, by rw [HL.out]; exact HO.out, HF, hB3⟩
                    case measure => simp [intOf]; omega
                · have hcb : ((s[G].toNat : Int) == 44) = false := by simpa using hc
                  have HF : Hid (R = ([], G, 8)) := by show _ = _; rw [HR.out, prs_bad HS.out (by rw [HDR.out]; exact HC.out) (.inl hc), HE.out]
                  clear HR HS HE HDR HC hown3
                  go_wp2
                  go_ret3
                  exact ParseAns.bad HF.out hB3
          · have hcb0 : ((s[E].toNat : Int) == 45) = false := by simpa using hc0
            have HS : Hid (rdS ((bn s).drop k) least = ((lo, lo), n, true)) := by
              have := rdS_other HB1.out.2.2 (by rw [HDR1.out]; exact HC0.out) hc0
              rw [HB1.out.1, HB1.out.2.1] at this
              exact this
            clear HB1 HDR1 hend0 HC0 hc0
            have HDR : Hid (((bn s).drop k).drop (n) = (bn s).drop E) := by show _ = _; rw [List.drop_drop, HE.out]
            have hZ : w.heap.size ≤ (w1.alloc (.cells #[.int .i32 lo, .int .i32 lo] 44)).heap.size := by have := hB.size; simp; omega
            have hW : Below w.heap.size w (w1.alloc (.cells #[.int .i32 lo, .int .i32 lo] 44)) := hB.alloc hB.size _
            go_wp2_with ((at_builtin; refine wpList_append_spans rfl _ _ rfl w.heap.size _ _ acc rfl (hrow.alloc _) _ [(lo, lo)] rfl (SpansAt.new1 _ _ _ w1.heap.size (by simp)) (by simp only [List.length_cons, List.length_nil]; omega) hZ ?_; intro v' w3 hown' hgrow'; refine Hid.out ?_))
            refine hid' ?_
            have hB3 := below_grow hW hZ (hrow.alloc _) hgrow'
            have hown3 : w3.ownsRow w.heap.size 44 2 v' (acc.length + 1) (flat2 (acc ++ [(lo, lo)])) := hown'
            obtain ⟨M, hM⟩ : ∃ M, M = acc.length + 1 := ⟨_, rfl⟩
            rw [← hM] at hown3
            have hl : (acc ++ [(lo, lo)]).length = M := by rw [hM]; simp
            obtain ⟨pb, cb, rfl⟩ : ∃ p c, v' = .slice p M c := by
              obtain ⟨p, c, e, _⟩ := SpansAt.own hl.symm hown3; exact ⟨p, c, by rw [e, hl]⟩
            have HL := hid' hl
            have HM := hid' hM
            have hM9 : M ≤ 1024 := by omega
            clear hl hM
            clear hown' hgrow' hrow hZ hW
            by_cases hend : E = s.size
            · have hend' : ((E : Int) == (s.size : Int)) = true := by simp; omega
              have HF : Hid (R = (acc ++ [(lo, lo)], 0, 0)) := by show _ = _; rw [HR.out, prs_end HS.out (by rw [HDR.out]; exact bn_drop_nil s E (by omega))]
              have HO := hid' hown3
              clear hend HR HS HE HDR hown3
              go_wp2
              go_ret3
              rw [HF.out]
              have hl := HL.out
              refine ⟨⟨pb, cb, by simp only [hl]; rfl, ?_⟩, hB3⟩
              have := SpansAt.own hl.symm HO.out
              simp only [hl]
              exact this
            · have hend' : ((E : Int) == (s.size : Int)) = false := by simp; omega
              have hlt : E < s.size := by omega
              have hlt' : (E : Int) < (s.size : Int) := by omega
              have HC := hid' (bn_drop s E hlt)
              clear hend
              by_cases hc : (s[E].toNat : Int) = 44
              · have hcb : ((s[E].toNat : Int) == 44) = true := by simpa using hc
                have hcb2 : ((s[E].toNat : Int) != 44) = false := by simpa using hc
                by_cases hfull : acc.length + 1 = 1024
                · have HF : Hid (R = ([], E, 8)) := by show _ = _; rw [HR.out, prs_bad HS.out (by rw [HDR.out]; exact HC.out) (.inr hfull), HE.out]
                  have hfb : ((M : Int) == 1024) = true := by have := HM.out; simp; omega
                  clear HR HS HE HDR HC hc hown3 hfull
                  go_wp2
                  go_ret3
                  exact ParseAns.bad HF.out hB3
                · have HF : Hid (R = prs f' ((bn s).drop (E + 1)) (E + 1) (lo + 2) (acc ++ [(lo, lo)])) := by
                    show _ = _
                    rw [HR.out, prs_go HS.out (by rw [HDR.out]; exact HC.out) (by intro h; rcases h with h | h; exact h hc; exact hfull h), HE.out]
                  have hfb : ((M : Int) == 1024) = false := by have := HM.out; simp; omega
                  have hM8 : M < 1024 := by have := HM.out; omega
                  have HO := hid' hown3
                  clear HR HS HE HDR HC hc hown3 hfull
                  go_wp2
                  go_roundw
                  case rel => exact ⟨E + 1, f', _, acc ++ [(lo, lo)], by go_num, rfl, by omega, by omega, by have := HL.out; have := HM.out; omega, by rw [HL.out]; exact HO.out, HF, hB3⟩
                  case measure => simp [intOf]; omega
              · have hcb : ((s[E].toNat : Int) == 44) = false := by simpa using hc
                have HF : Hid (R = ([], E, 8)) := by show _ = _; rw [HR.out, prs_bad HS.out (by rw [HDR.out]; exact HC.out) (.inl hc), HE.out]
                clear HR HS HE HDR HC hown3
                go_wp2
                go_ret3
                exact ParseAns.bad HF.out hB3
end Go.Proofs.YtlgnnljleooenaaDoor
