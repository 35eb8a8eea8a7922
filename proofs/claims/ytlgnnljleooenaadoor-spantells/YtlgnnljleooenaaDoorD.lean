/- The contract of the document's Made. -/
import Derived.Test.YtlgnnljleooenaaDoorI
import Derived.Test.YtlgnnljleooenaaDoorH
namespace Go.Proofs.YtlgnnljleooenaaDoor
open Go.RowKit
set_option linter.unusedVariables false

def fOf (h : Int) (a b : List Sp) (x : Int) : Bool := how h (hasP a x) (hasP b x)
def RMade (h : Int) (a b m : List Sp) (e : Int) : Prop :=
  (chk a ≠ 0 ∧ m = [] ∧ e = chk a) ∨ (chk a = 0 ∧ chk b ≠ 0 ∧ m = [] ∧ e = chk b) ∨
  (chk a = 0 ∧ chk b = 0 ∧ ∃ m', Nf (fun x => decide (0 ≤ x ∧ x ≤ 1114111) && fOf h a b x) m' ∧ ((1024 < m'.length ∧ m = [] ∧ e = 4) ∨ (m'.length ≤ 1024 ∧ m = m' ∧ e = 0)))
theorem start_bd {c : List Sp} (h : c.all ok1 = true) : ∀ x ∈ start c, 0 ≤ x ∧ x ≤ 1114112 := by
  intro x hx
  unfold start raw at hx
  rcases List.mem_append.1 hx with hx | hx
  · simp at hx; omega
  · obtain ⟨s, hs, hx⟩ := List.mem_flatMap.1 hx
    have := ok1_true_of s (List.all_eq_true.1 h s hs)
    simp at hx; omega
theorem ends_of {E : List Int} {c : List Sp} (hp : E.Pairwise (· < ·)) (hm : ∀ x, x ∈ E ↔ x ∈ start c) (hok : c.all ok1 = true) : 2 ≤ E.length ∧ E[0]?.getD 0 = 0 ∧ E[E.length - 1]?.getD 0 = 1114112 := by
  have h0 : (0 : Int) ∈ E := (hm _).2 (by simp [start])
  have h1 : (1114112 : Int) ∈ E := (hm _).2 (by simp [start])
  have hb : ∀ x ∈ E, 0 ≤ x ∧ x ≤ 1114112 := fun x hx => start_bd hok x ((hm x).1 hx)
  obtain ⟨i, hi, ei⟩ := List.mem_iff_getElem.1 h0
  obtain ⟨j, hj, ej⟩ := List.mem_iff_getElem.1 h1
  rw [List.pairwise_iff_getElem] at hp
  have hi0 : i = 0 := by
    by_cases c : i = 0
    · exact c
    · have := hp 0 i (by omega) hi (by omega)
      have := hb E[0] (List.getElem_mem _)
      omega
  have hjl : j = E.length - 1 := by
    by_cases c : j = E.length - 1
    · exact c
    · have := hp j (E.length - 1) hj (by omega) (by omega)
      have := hb E[E.length - 1] (List.getElem_mem _)
      omega
  subst hi0
  subst hjl
  refine ⟨?_, by rw [List.getElem?_eq_getElem hi]; exact ei, by rw [List.getElem?_eq_getElem hj]; exact ej⟩
  by_cases c : E.length = 1
  · have : E[0] = E[E.length - 1] := by congr 1; omega
    omega
  · omega
theorem last_lt {f : Int → Bool} {p lo hi : Int} {O : List Sp} (h : Upto f p (O ++ [(lo, hi)])) (hne : hi + 1 ≠ p) : ∀ e ∈ unbtw (O ++ [(lo, hi)]), e ≠ p := by
  obtain ⟨h1, h2, _⟩ := h
  have e1 : unbtw (O ++ [(lo, hi)]) = (unbtw O ++ [lo]) ++ [hi + 1] := by rw [unbtw_append]; simp [unbtw]
  rw [e1] at h1 h2 ⊢
  have hl := h2 (hi + 1) (by simp)
  rw [List.pairwise_append] at h1
  intro e he
  rcases List.mem_append.1 he with he | he
  · have := h1.2.2 e he (hi + 1) (by simp); omega
  · simp at he; omega
theorem flat2_set (O : List Sp) (lo hi hi' : Int) : (flat2 (O ++ [(lo, hi)])).set (O.length * 2 + 1) (.int .i32 hi') = flat2 (O ++ [(lo, hi')]) := by
  rw [flat2_append, flat2_append, List.set_append_right _ _ (by rw [flat2_len]; omega), flat2_len]
  congr 1
  rw [show O.length * 2 + 1 - O.length * 2 = 1 by omega]
  rfl

theorem spans_snoc {W : World} {B : Nat} {v : Value} {O : List Sp} {x y : Int} (h : W.ownsRow B 44 2 v (O.length + 1) (flat2 O ++ [.int .i32 x, .int .i32 y])) : W.ownsRow B 44 2 v (O ++ [(x, y)]).length (flat2 (O ++ [(x, y)])) := by
  rw [flat2_append, List.length_append]; exact h
set_option maxRecDepth 100000 in
set_option maxHeartbeats 3200000 in
theorem made_any (h : Int) (hh : h = 0 ∨ h = 1 ∨ h = 2 ∨ h = 3) (v u : Value) (a b : List Sp) (hA : a.length ≤ 17179869184) (hB : b.length ≤ 17179869184) (w : World) (hv : SpansAt w v a) (hu : SpansAt w u b) :
    Calls Tryd.prog 16 #[.int .i64 h, v, u] w fun e W' => (∃ p k m r, e = .returned (.tuple #[.slice p m.length k, .int .i64 r]) ∧ RMade h a b m r ∧ SpansAt W' (.slice p m.length k) m) ∧ Below w.heap.size w W' := by
  obtain ⟨i0, hi0, hz0, hz1, hz2⟩ := info_parts Tryd.info44
  obtain ⟨pa, ka, rfl⟩ : ∃ p k, v = .slice p a.length k := by obtain ⟨p, k, e, _⟩ := hv; exact ⟨p, k, e⟩
  obtain ⟨pb, kb, rfl⟩ : ∃ p k, u = .slice p b.length k := by obtain ⟨p, k, e, _⟩ := hu; exact ⟨p, k, e⟩
  by_cases hca : chk a ≠ 0
  · have HX := hid' hca
    go_enter Tryd.func16, Tryd.ntmps16
    go_wp2_with fail
    refine (rcheck_any _ a (by omega) _ hv).mono ?_
    rintro e w1 ⟨rfl, n1, rfl⟩
    go_wp2
    go_ret2
    exact ⟨⟨none, 0, [], chk a, rfl, .inl ⟨HX.out, rfl, rfl⟩, SpansAt.nil _⟩, below_drewN (Below.refl _ _) _⟩
  have HCa : Hid (chk a = 0) := by show _ = _; omega
  clear hca
  by_cases hcb : chk b ≠ 0
  · have HX := hid' hcb
    go_enter Tryd.func16, Tryd.ntmps16
    go_wp2_with fail
    refine (rcheck_any _ a (by omega) _ hv).mono ?_
    rw [HCa.out]
    rintro e w1 ⟨rfl, n1, rfl⟩
    go_wp2_with fail
    refine (rcheck_any _ b (by omega) _ (hu.below (below_drewN (Below.refl _ w) n1) (Nat.le_refl _))).mono ?_
    rintro e w1 ⟨rfl, n2, rfl⟩
    go_wp2
    go_ret2
    exact ⟨⟨none, 0, [], chk b, rfl, .inr (.inl ⟨HCa.out, HX.out, rfl, rfl⟩), SpansAt.nil _⟩, below_drewN (Below.refl _ _) _⟩
  have HCb : Hid (chk b = 0) := by show _ = _; omega
  clear hcb
  have HOK : Hid ((a ++ b).all ok1 = true) := by show _ = _; rw [List.all_append, (chk_zero HCa.out).2, (chk_zero HCb.out).2]; rfl
  go_enter Tryd.func16, Tryd.ntmps16
  go_wp2_with fail
  refine (rcheck_any _ a (by omega) _ hv).mono ?_
  rw [HCa.out]
  rintro e w1 ⟨rfl, n1, hq1⟩
  obtain ⟨w2, hw2⟩ : ∃ w2, w2 = w1 := ⟨_, rfl⟩
  rw [← hw2]
  have hB2 : Below w.heap.size w w2 := by rw [hw2, hq1]; exact below_drewN (Below.refl _ _) n1
  clear hw2 hq1
  go_wp2_with fail
  refine (rcheck_any _ b (by omega) _ (hu.below hB2 (Nat.le_refl _))).mono ?_
  rw [HCb.out]
  rintro e w3 ⟨rfl, n3, hq3⟩
  obtain ⟨w4, hw4⟩ : ∃ w4, w4 = w3 := ⟨_, rfl⟩
  rw [← hw4]
  have hB4 : Below w.heap.size w w4 := by rw [hw4, hq3]; exact below_drewN hB2 n3
  clear hw4 hq3 hB2
  go_wp2_with fail
  refine (redges_any _ _ a b HCa.out HCb.out _ (hv.below hB4 (Nat.le_refl _)) (hu.below hB4 (Nat.le_refl _))).mono ?_
  rintro e w5 ⟨v5, E, rfl, hp, hm, hE9, hown5, hb5⟩
  have hB5 := hB4.trans (hb5.mono hB4.size)
  obtain ⟨hE2, hE0, hEl⟩ := ends_of hp hm HOK.out
  have HBD : Hid (∀ x ∈ E, 0 ≤ x ∧ x ≤ 1114112) := fun x hx => start_bd HOK.out x ((hm x).1 hx)
  have HST : Hid (∀ i, i + 1 < E.length → ∀ x, E[i]?.getD 0 ≤ x → x < E[i + 1]?.getD 0 → fOf h a b x = fOf h a b (E[i]?.getD 0)) := fun i hi x h1 h2 => by
    have := steady hp hm hi h1 h2
    unfold fOf; rw [this.1, this.2]
  have HPW := hid' hp
  have HE0 := hid' hE0
  have HEL := hid' hEl
  obtain ⟨n, hn⟩ : ∃ n, n = E.length := ⟨_, rfl⟩
  have HN := hid' hn
  rw [← hn] at hown5 hE2
  have hrow5 := hown5
  rcases Go.Joins.ownsRow_forms hown5 with ⟨-, h00⟩ | ⟨g, cap, rfl⟩
  · omega
  have hgl : g < w5.heap.size := (hrow5.lt g rfl).2
  have hnE : n ≤ 4098 := by omega
  clear hp hm hE0 hEl hn hown5 hb5 hB4
  have hva5 := hv.below hB5 (Nat.le_refl _)
  have hvb5 := hu.below hB5 (Nat.le_refl _)
  go_wp2_with fail
  go_loopw [10, 11] (fun v10 i wr => ∃ (j : Nat) (O : List Sp), j + 1 ≤ n ∧ i = .int .i64 j ∧ wr.ownsRow w5.heap.size 44 2 v10 O.length (flat2 O) ∧ O.length ≤ j ∧ Hid (Upto (fOf h a b) (E[j]?.getD 0) O) ∧ Below w5.heap.size w5 wr)
    (fun _ i _ => n - (intOf i).toNat)
  case atStart => exact ⟨0, [], by omega, rfl, World.ownsRow_nil _ _ _ _, Nat.le_refl _, ⟨by simp [unbtw], by simp [unbtw], fun x => by rw [HE0.out, decide_eq_false (by omega)]; rfl⟩, Below.refl _ _⟩
  case round =>
    obtain ⟨j, O, hj, rfl, hrow, hOl, HU, hBq⟩ := hrel
    by_cases hlt : j + 1 < n
    · obtain ⟨p, hpE⟩ : ∃ p, E[j]?.getD 0 = p := ⟨_, rfl⟩
      obtain ⟨q, hqE⟩ : ∃ q, E[j + 1]?.getD 0 = q := ⟨_, rfl⟩
      have cp0 := row_cell hrow5 j (by omega)
      have cq0 := row_cell hrow5 (j + 1) (by omega)
      rw [hpE] at cp0
      rw [hqE] at cq0
      have cp := (hBq.cell (p := ⟨g, j, none⟩) hgl).trans cp0
      have cq := (hBq.cell (p := ⟨g, j + 1, none⟩) hgl).trans cq0
      have hlE : j + 1 < E.length := by have := HN.out; omega
      have hpq : p < q := by
        have := HPW.out
        rw [List.pairwise_iff_getElem] at this
        have := this j (j + 1) (by omega) hlE (by omega)
        rw [← hpE, ← hqE, List.getElem?_eq_getElem (by omega), List.getElem?_eq_getElem hlE]
        exact this
      have hpb := HBD.out p (by rw [← hpE, List.getElem?_eq_getElem (by omega)]; exact List.getElem_mem _)
      have hqb := HBD.out q (by rw [← hqE, List.getElem?_eq_getElem hlE]; exact List.getElem_mem _)
      have HSTP : Hid (∀ x, p ≤ x → x < q → fOf h a b x = fOf h a b p) := fun x h1 h2 => by
        have := HST.out j hlE x (by rw [hpE]; exact h1) (by rw [hqE]; exact h2)
        rw [hpE] at this; exact this
      rw [hpE] at HU
      have HQE := hid' hqE
      clear hpE hqE cp0 cq0 hlE
      have b0 : (0 : Int) ≤ (j : Int) := by omega
      have b1 : (j : Int) < (n : Int) := by omega
      have b2 : (j : Int) + 1 < (n : Int) := by omega
      have hvaq : ∀ q, SpansAt (wr.drewN q) (.slice pa a.length ka) a := fun q => hva5.below (below_drewN hBq q) (Nat.le_refl _)
      have hvbq : ∀ q, SpansAt (wr.drewN q) (.slice pb b.length kb) b := fun q => hvb5.below (below_drewN hBq q) (Nat.le_refl _)
      go_wp2_with fail
      go_quiet ((first
        | (go_at_call_of 22 (Value.slice pa a.length ka); exact Calls.quiet_of_same (rhas_any _ a p (by omega) _ (hvaq _)))
        | (go_at_call_of 22 (Value.slice pb b.length kb); exact Calls.quiet_of_same (rhas_any _ b p (by omega) _ (hvbq _)))
        | (go_at_call 36; exact Calls.quiet_of_same (rcounts_any h hh _ _ _))))
      have hrowq := ownsRow_drewN (q := nq) hrow
      have hBqq := below_drewN hBq nq
      have cp2 : (wr.drewN nq).cell? ⟨g, j, none⟩ = some (.int .i32 p) := cp
      have cq2 : (wr.drewN nq).cell? ⟨g, j + 1, none⟩ = some (.int .i32 q) := cq
      clear hrow hBq cp cq hvaq hvbq
      generalize wr.drewN nq = wq at hrowq hBqq cp2 cq2 ⊢
      have hrow := hrowq
      have hBq := hBqq
      have cp := cp2
      have cq := cq2
      clear hrowq hBqq cp2 cq2
      have hwr : IntKind.i64.wrap ((j : Int) + 1) = (j : Int) + 1 := by simp [IntKind.wrap, IntKind.bits, IntKind.signed]; omega
      have hwr2 : IntKind.i32.wrap (q - 1) = q - 1 := by simp [IntKind.wrap, IntKind.bits, IntKind.signed]; omega
      have b3 : (0 : Int) ≤ (j : Int) + 1 := by omega
      cases hC : how h (hasP a p) (hasP b p) with
      | false =>
        have HC := hid' hC
        have HNEW := hid' (upto_skip HU.out (by omega) (by omega) (fun x h1 h2 => by rw [HSTP.out x h1 h2]; exact hC) : Upto (fOf h a b) q O)
        clear hC
        go_wp2_with fail
        go_roundw
        case rel => exact ⟨j + 1, O, by omega, by go_num, hrow, by omega, by rw [HQE.out]; exact HNEW.out, hBq⟩
        case measure => simp [intOf] <;> omega
      | true =>
        have HT : Hid (∀ x, p ≤ x → x < q → fOf h a b x = true) := fun x h1 h2 => by rw [HSTP.out x h1 h2]; exact hC
        clear hC HSTP
        rcases List.eq_nil_or_concat O with hO | ⟨O', ⟨lo, hi⟩, hO⟩
        · have HNEW := hid' (upto_new HU.out (by omega) hpq HT.out (by rw [hO]; intro e he; cases he))
          subst hO
          simp only [List.length_nil] at hrow hOl
          rcases Go.Joins.ownsRow_forms hrow with ⟨rfl, -⟩ | ⟨g3, cap3, rfl⟩
          all_goals
            go_wp2_with fail
            go_quiet (fail)
            have hrowz := ownsRow_drewN (q := nq) hrow
            have hBz := below_drewN hBq nq
            have cpz : (wq.drewN nq).cell? ⟨g, j, none⟩ = some (.int .i32 p) := cp
            have cqz : (wq.drewN nq).cell? ⟨g, j + 1, none⟩ = some (.int .i32 q) := cq
            clear hrow hBq cp cq
            generalize wq.drewN nq = wz at hrowz hBz cpz cqz ⊢
            have hbz := lt_of_cell cpz
            dsimp only at hbz
            go_wp2_with fail
            go_region_held3 (fun w' => w'.cell? ⟨g, j, none⟩ = some (.int .i32 p) ∧ w'.cell? ⟨g, j + 1, none⟩ = some (.int .i32 q))
              (first
                | go_keep
                | (go_split_ands
                   refine ⟨?_, ?_⟩
                   · (rw [hgrow.cell_far _ (by simp; omega) (fun e => absurd (hrowz.lt g e.symm).1 (by omega))]; assumption)
                   · (rw [hgrow.cell_far _ (by simp; omega) (fun e => absurd (hrowz.lt g e.symm).1 (by omega))]; assumption)))
              ((refine step_append_lies _ (by rfl) _ _ _ (by rfl) w5.heap.size 44 i0 _ 2 8 Tryd.underlying22 hi0 hz0 hz1 hz2 rfl (by omega) _ _ (flat2 []) (by rfl) ((hrowz.alloc _).drew)
                  ⟨wz.heap.size, 0, none⟩ 1 1 [.int .i32 p, .int .i32 (q - 1)] (by rfl) (by rfl) (World.news_of_block (cs := #[.int .i32 p, .int .i32 (q - 1)]) (t := 44) (fr := (0, 0)) (heap_alloc_new wz _)) (by simp [Value.oneCell'])
                  (by omega) (by unfold maxLen; omega) (by omega) (by simp; exact Nat.le_succ_of_le hBz.size) (wz.heap.size + 1) (by simp) ?_; intro gg cap' w6 hown6 hgrow hat hlt6))
            have hB6 := below_grow (w1 := (wz.alloc (.cells #[.int .i32 p, .int .i32 (q - 1)] 44)).drew) (hBz.alloc hBz.size _).drew (Nat.le_trans hBz.size (by simp)) ((hrowz.alloc _).drew) hgrow
            have HR6 := hid' (spans_snoc (O := []) hown6)
            clear hown6 hgrow hat hlt6 hrowz cpz cqz
            go_wp2
            go_roundw
            case rel => exact ⟨j + 1, [] ++ [(p, q - 1)], by omega, by go_num, HR6.out, by simp, by rw [HQE.out]; exact HNEW.out, hB6⟩
            case measure => simp [intOf] <;> omega
        · rw [List.concat_eq_append] at hO
          have hOl1 : O.length = O'.length + 1 := by rw [hO]; simp
          obtain ⟨M, hM⟩ : ∃ M, M = O'.length := ⟨_, rfl⟩
          rw [← hM] at hOl1
          have HMM := hid' hM
          have HO := hid' hO
          have hbe := HU.out.2.1 (hi + 1) (by rw [hO, unbtw_append]; simp [unbtw])
          rcases Go.Joins.ownsRow_forms hrow with ⟨-, h00⟩ | ⟨g3, cap3, rfl⟩
          · omega
          have ch : wq.cell? ⟨g3, M * 2 + 1, none⟩ = some (.int .i32 hi) := by
            rw [hrow.cellAt (M * 2 + 1) (by omega), (flat2_get O M (by omega)).2, hO, hM]; simp
          have fh := hrow.frozenAt (M * 2 + 1)
          have hg3 : w5.heap.size ≤ g3 := (hrow.lt g3 rfl).1
          have b6 : (0 : Int) ≤ (M : Int) := by omega
          have b7 : (M : Int) < ((M + 1 : Nat) : Int) := by omega
          have hwr3 : IntKind.i32.wrap (hi + 1) = hi + 1 := by simp [IntKind.wrap, IntKind.bits, IntKind.signed]; omega
          have hw5 : IntKind.i64.wrap ((M : Int) + 1 - 1) = (M : Int) := by simp [IntKind.wrap, IntKind.bits, IntKind.signed]; omega
          have hw6 : IntKind.i64.wrap (((M + 1 : Nat) : Int) - 1) = (M : Int) := by simp [IntKind.wrap, IntKind.bits, IntKind.signed]; omega
          have hw7 : IntKind.i64.wrap (M : Int) = (M : Int) := by simp [IntKind.wrap, IntKind.bits, IntKind.signed]; omega
          have b8 : (M : Int) < (M : Int) + 1 := by omega
          have hOM := hOl1
          clear hO hM
          by_cases heq : hi + 1 = p
          · have hhi : hi = p - 1 := by omega
            have HNEW : Hid (Upto (fOf h a b) q (O' ++ [(lo, q - 1)])) := upto_grow (by have := HU.out; rw [HO.out, hhi] at this; exact this) (by omega) hpq HT.out
            have hst := fun z : Nat => ((ownsRow_drewN (q := z) hrow).stored (M * 2 + 1) (.int .i32 (q - 1))).1
            have HST2 : Hid (∀ z, ((wq.drewN z).setCell ⟨g3, M * 2 + 1, none⟩ (.int .i32 (q - 1))).ownsRow w5.heap.size 44 2 (.slice (some ⟨g3, 0, none⟩) O.length cap3) (O' ++ [(lo, q - 1)]).length (flat2 (O' ++ [(lo, q - 1)]))) := fun z => by
              have h1 := hst z
              have e1 : (O' ++ [(lo, q - 1)]).length = O.length := by rw [HO.out]; simp
              rw [e1]
              have e2 : (flat2 O).set (M * 2 + 1) (.int .i32 (q - 1)) = flat2 (O' ++ [(lo, q - 1)]) := by rw [HO.out, HMM.out]; exact flat2_set O' lo hi (q - 1)
              rw [e2] at h1
              exact h1
            clear hst
            simp only [hOM] at hrow hOl ⊢ HST2
            clear hOM hOl1
            have heqb : (hi + 1 == p) = true := by simpa using heq
            subst hhi
            clear heq
            have hpp : p - 1 + 1 = p := by omega
            go_wp2_with fail
            go_quiet (fail)
            go_wp2_with fail
            go_roundw
            case rel => exact ⟨j + 1, O' ++ [(lo, q - 1)], by omega, by go_num, HST2.out _, by rw [List.length_append, List.length_singleton, ← HMM.out]; omega, by rw [HQE.out]; exact HNEW.out, (below_drewN hBq _).setCell (p := ⟨g3, M * 2 + 1, none⟩) hg3 _⟩
            case measure => simp [intOf] <;> omega
          · have HNEW := hid' (upto_new HU.out (by omega) hpq HT.out (by rw [HO.out]; exact last_lt (by have := HU.out; rw [HO.out] at this; exact this) heq))
            have heqb : (hi + 1 == p) = false := by simpa using heq
            have HOM := hid' hOM
            simp only [hOM] at hrow hOl ⊢
            clear hOM hOl1
            go_wp2_with fail
            go_quiet (fail)
            have hrowz := ownsRow_drewN (q := nq) hrow
            have hBz := below_drewN hBq nq
            have cpz : (wq.drewN nq).cell? ⟨g, j, none⟩ = some (.int .i32 p) := cp
            have cqz : (wq.drewN nq).cell? ⟨g, j + 1, none⟩ = some (.int .i32 q) := cq
            clear hrow hBq cp cq
            generalize wq.drewN nq = wz at hrowz hBz cpz cqz ⊢
            have hbz := lt_of_cell cpz
            dsimp only at hbz
            go_wp2_with fail
            go_region_held3 (fun w' => w'.cell? ⟨g, j, none⟩ = some (.int .i32 p) ∧ w'.cell? ⟨g, j + 1, none⟩ = some (.int .i32 q))
              (first
                | go_keep
                | (go_split_ands
                   refine ⟨?_, ?_⟩
                   · (rw [hgrow.cell_far _ (by simp; omega) (fun e => absurd (hrowz.lt g e.symm).1 (by omega))]; assumption)
                   · (rw [hgrow.cell_far _ (by simp; omega) (fun e => absurd (hrowz.lt g e.symm).1 (by omega))]; assumption)))
              ((refine step_append_lies _ (by rfl) _ _ _ (by rfl) w5.heap.size 44 i0 _ 2 8 Tryd.underlying22 hi0 hz0 hz1 hz2 rfl (by omega) _ _ (flat2 O) (by rfl) ((hrowz.alloc _).drew)
                  ⟨wz.heap.size, 0, none⟩ 1 1 [.int .i32 p, .int .i32 (q - 1)] (by rfl) (by rfl) (World.news_of_block (cs := #[.int .i32 p, .int .i32 (q - 1)]) (t := 44) (fr := (0, 0)) (heap_alloc_new wz _)) (by simp [Value.oneCell'])
                  (by omega) (by unfold maxLen; omega) (by omega) (by simp; exact Nat.le_succ_of_le hBz.size) (wz.heap.size + 1) (by simp) ?_; intro gg cap' w6 hown6 hgrow hat hlt6))
            have hB6 := below_grow (w1 := (wz.alloc (.cells #[.int .i32 p, .int .i32 (q - 1)] 44)).drew) (hBz.alloc hBz.size _).drew (Nat.le_trans hBz.size (by simp)) ((hrowz.alloc _).drew) hgrow
            have HR6 : Hid (w6.ownsRow w5.heap.size 44 2 (.slice (some ⟨gg, 0, none⟩) (M + 1 + 1) cap') (O ++ [(p, q - 1)]).length (flat2 (O ++ [(p, q - 1)]))) := by
              show w6.ownsRow _ _ _ _ _ _
              rw [flat2_append, List.length_append, HOM.out]; exact hown6
            clear hown6 hgrow hat hlt6 hrowz cpz cqz
            go_wp2
            go_roundw
            case rel => exact ⟨j + 1, O ++ [(p, q - 1)], by omega, by go_num, HR6.out, by rw [List.length_append, List.length_singleton, HOM.out]; omega, by rw [HQE.out]; exact HNEW.out, hB6⟩
            case measure => simp [intOf] <;> omega
    · have hjn : j = n - 1 := by omega
      have hnl : ¬ ((j : Int) + 1 < (n : Int)) := by omega
      have HNF : Hid (Nf (fun x => decide (0 ≤ x ∧ x ≤ 1114111) && fOf h a b x) O) := upto_nf (by
        have h1 := HU.out
        have h2 := HEL.out
        rw [← HN.out] at h2
        rw [hjn, h2] at h1
        exact h1)
      have hS := SpansAt.own rfl hrow
      obtain ⟨po, ko, rfl⟩ : ∃ p k, u10 = .slice p O.length k := by obtain ⟨p, k, e, _⟩ := hS; exact ⟨p, k, e⟩
      have hBf := hB5.trans (hBq.mono hB5.size)
      clear hjn
      by_cases hlong : 1024 < O.length
      · have hl2 : (1024 : Int) < (O.length : Int) := by omega
        go_wp2
        go_ret2
        exact ⟨⟨none, 0, [], 4, rfl, .inr (.inr ⟨HCa.out, HCb.out, O, HNF.out, .inl ⟨hlong, rfl, rfl⟩⟩), SpansAt.nil _⟩, hBf⟩
      · have hl2 : ¬ (1024 : Int) < (O.length : Int) := by omega
        go_wp2
        go_ret2
        exact ⟨⟨po, ko, O, 0, rfl, .inr (.inr ⟨HCa.out, HCb.out, O, HNF.out, .inr ⟨by omega, rfl, rfl⟩⟩), hS⟩, hBf⟩
end Go.Proofs.YtlgnnljleooenaaDoor
