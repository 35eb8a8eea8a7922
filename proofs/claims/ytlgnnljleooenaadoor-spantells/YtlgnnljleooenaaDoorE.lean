/- The contract of edges: the edges of the set that its spans tell. -/
import Derived.Test.YtlgnnljleooenaaDoorS
import Derived.Test.YtlgnnljleooenaaDoorC
import Derived.Lib.SmallJoins
namespace Go.Proofs.YtlgnnljleooenaaDoor
open Go.RowKit
set_option linter.unusedVariables false

theorem step_len (out : List Int) (s : Sp) : (step out s).length ≤ out.length + 2 := by
  unfold step
  split
  · simp; omega
  · simp
theorem step_far (out : List Int) (s : Sp) (h : ¬ (0 < out.length ∧ s.1 ≤ out[out.length - 1]?.getD 0)) : step out s = out ++ [s.1, s.2 + 1] := by unfold step; rw [if_neg h]
theorem step_near (out : List Int) (s : Sp) (h : 0 < out.length ∧ s.1 ≤ out[out.length - 1]?.getD 0) : step out s = out.set (out.length - 1) (max (out[out.length - 1]?.getD 0) (s.2 + 1)) := by
  unfold step; rw [if_pos h]
  have hl := h.1
  rw [List.set_eq_take_append_cons_drop, if_pos (by omega), List.drop_eq_nil_of_le (by omega)]
theorem IntsAt.new2 (w : World) (x y : Int) (H : Nat) (hH : w.heap.size = H) : IntsAt (w.alloc (.cells #[.int .i32 x, .int .i32 y] 21)) (.slice (some ⟨H, 0, none⟩) 2 2) [x, y] := by
  subst hH
  refine ⟨_, 2, rfl, ⟨(fun e => by cases e), Nat.le_refl _⟩, fun _ => ⟨_, 0, rfl, fun j hj => ?_⟩⟩
  have := news_at w 21 [.int .i32 x, .int .i32 y] j
  rw [addr_add] at this
  have hj' : j < 2 := hj
  rcases j with _ | _ | j
  · exact this _ rfl
  · exact this _ rfl
  · omega
set_option maxRecDepth 100000 in
set_option maxHeartbeats 2000000 in
theorem edges_any (v : Value) (l : List Sp) (hok : chk l = 0) (w : World) (hv : SpansAt w v l) :
    Calls Tryd.prog 34 #[v] w fun e W' => ∃ v' E, e = .returned v' ∧ IsEdges E (hasP l) ∧ E.length ≤ 2 * l.length ∧ W'.ownsRow w.heap.size 21 1 v' E.length (E.map (Value.int .i32)) ∧ Below w.heap.size w W' := by
  obtain ⟨hlen, hall⟩ := chk_zero hok
  have HA : Hid (l.all ok1 = true) := hall
  clear hall hok
  go_enter Tryd.func34, Tryd.ntmps34
  go_wp2_with ((at_builtin; refine wpList_append_spans rfl _ _ rfl w.heap.size _ _ [] rfl (World.ownsRow_nil _ _ _ _) _ l rfl hv (by omega) (Nat.le_refl _) ?_; intro v1 w1 hown1 hgrow1; rw [Nat.zero_add, List.nil_append] at hown1; refine Hid.out ?_))
  refine hid' ?_
  have hb1 : Below w.heap.size w w1 := below_grow (e := 44) (size := 2) (Below.refl _ _) (Nat.le_refl _) (World.ownsRow_nil _ _ _ _) hgrow1
  clear hgrow1 hv
  obtain ⟨a1, cap1, rfl, -, -⟩ := SpansAt.own rfl hown1
  go_wp2_with fail
  refine (sort_spans w.heap.size (.slice a1 l.length cap1) l w1.heap.size (w1.alloc (.cells #[.slice a1 l.length cap1] 22)) (by omega) (hown1.alloc _) (by simp) (by simp) (by simp; exact Nat.le_succ_of_le hb1.size) ?_).mono ?_
  · intro e
    have := (hown1.lt _ e).2
    omega
  rintro e w2 ⟨rfl, l', hp, hsort, hs, hbox, hb2⟩
  have hB2 : Below w.heap.size w w2 := (hb1.alloc hb1.size _).trans hb2
  clear hb1 hb2 hown1
  have hs0 := hs
  obtain ⟨a, cap, hav, -, hs⟩ := hs
  simp only [Value.slice.injEq] at hav
  obtain ⟨rfl, hll, rfl⟩ := hav
  have HP : Hid (l'.Perm l) := hp
  have hl' : l'.length ≤ 1024 := by rw [hp.length_eq]; exact hlen
  have HK : Hid (l'.all ok1 = true) := by
    show l'.all ok1 = true
    rw [List.all_eq_true]; exact fun s hs => List.all_eq_true.1 HA.out s (hp.mem_iff.1 hs)
  have HS : Hid (l'.Pairwise (fun s t => s.1 ≤ t.1)) := hsort
  clear hp hsort
  go_wp2_with fail
  have hB3 := hB2
  go_loopw [4, 16] (fun v4 i wr => ∃ k : Nat, k ≤ l'.length ∧ i = .int .i64 k ∧ wr.ownsRow w2.heap.size 21 1 v4 (fold (l'.take k)).length ((fold (l'.take k)).map (Value.int .i32)) ∧ (fold (l'.take k)).length ≤ 2 * k ∧ Below w2.heap.size w2 wr)
    (fun _ i _ => l'.length - (intOf i).toNat)
  case atStart => exact ⟨0, Nat.zero_le _, rfl, World.ownsRow_nil _ _ _ _, by simp [fold], Below.refl _ _⟩
  case round =>
    obtain ⟨k, hk, rfl, hrow, hfl, hB⟩ := hrel
    by_cases hlt : k < l'.length
    · obtain ⟨b, off, rfl, hc⟩ := hs (by omega)
      obtain ⟨x, y, HX, c1, c2, hb⟩ := SpansAt.elem (cap := cap1) hlt hB hc
      have hxy := ok1_true_of (x, y) (by rw [← HX.out, List.getElem?_eq_getElem hlt]; exact List.all_eq_true.1 HK.out _ (List.getElem_mem hlt))
      obtain ⟨h1, h2, h3⟩ := hxy
      dsimp only at h1 h2 h3
      have HF : Hid (fold (l'.take (k + 1)) = step (fold (l'.take k)) (x, y)) := by
        show fold (l'.take (k + 1)) = _
        rw [fold_snoc l' k hlt, HX.out]
      clear hc hs hs0 hbox
      obtain ⟨O, hO⟩ : ∃ O, O = fold (l'.take k) := ⟨_, rfl⟩
      rw [← hO] at hrow hfl HF
      clear hO
      have hR := fun q : Nat => (ownsRow_drewN (q := q) (hrow.alloc (.cells #[.int .i32 x, .int .i32 y] 44))).alloc (.cells #[.int .i32 x, .int .i32 (y + 1)] 21)
      have hZ : ∀ q, w2.heap.size ≤ (((wr.alloc (.cells #[.int .i32 x, .int .i32 y] 44)).drewN q).alloc (.cells #[.int .i32 x, .int .i32 (y + 1)] 21)).heap.size := fun q => by
        have := hB.size
        simp; omega
      have hW0 : Below w2.heap.size w2 (wr.alloc (.cells #[.int .i32 x, .int .i32 y] 44)) := hB.alloc hB.size _
      have hW : ∀ q, Below w2.heap.size w2 (((wr.alloc (.cells #[.int .i32 x, .int .i32 y] 44)).drewN q).alloc (.cells #[.int .i32 x, .int .i32 (y + 1)] 21)) := fun q =>
        Below.alloc (show Below w2.heap.size w2 ((wr.alloc (.cells #[.int .i32 x, .int .i32 y] 44)).drewN q) from ⟨hW0.os, hW0.tape, hW0.output, hW0.size, hW0.block⟩) hW0.size _
      by_cases h0 : O.length = 0
      · have HE : Hid (step O (x, y) = O ++ [x, y + 1]) := step_far O (x, y) (by omega)
        rcases Go.Joins.ownsRow_forms hrow with ⟨rfl, -⟩ | ⟨g, cap, rfl⟩
        · go_wp2_with fail
          go_quiet (fail)
          go_wp2_with ((at_builtin; refine wpList_append_ints rfl _ _ rfl w2.heap.size _ _ O rfl (hR nq) _ [x, y + 1] rfl (IntsAt.new2 _ _ _ (wr.heap.size + 1) (by simp)) (by simp only [List.length_cons, List.length_nil]; omega) (hZ nq) ?_; intro v' w3 hown' hgrow'; refine Hid.out ?_))
          refine hid' ?_
          have hB' := below_grow (hW nq) (hZ nq) (hR nq) hgrow'
          rw [← HE.out, ← HF.out] at hown'
          have hlen' : (fold (l'.take (k + 1))).length = O.length + 2 := by rw [HF.out, HE.out]; simp
          have HR' : Hid (w3.ownsRow w2.heap.size 21 1 v' (fold (l'.take (k + 1))).length ((fold (l'.take (k + 1))).map (Value.int .i32))) := by
            show w3.ownsRow _ _ _ _ _ _
            rw [hlen']; exact hown'
          clear hown' hgrow' hR hZ hW hrow c1 c2 HE HF
          have HL' : Hid ((fold (l'.take (k + 1))).length ≤ 2 * (k + 1)) := by
            show _ ≤ _
            rw [hlen']; omega
          clear hlen'
          go_wp2
          go_roundw
          case rel => exact ⟨k + 1, by omega, by go_num, HR'.out, HL'.out, hB'⟩
          case measure => simp [intOf]; omega
        · go_wp2_with fail
          go_quiet (fail)
          go_wp2_with ((at_builtin; refine wpList_append_ints rfl _ _ rfl w2.heap.size _ _ O rfl (hR nq) _ [x, y + 1] rfl (IntsAt.new2 _ _ _ (wr.heap.size + 1) (by simp)) (by simp only [List.length_cons, List.length_nil]; omega) (hZ nq) ?_; intro v' w3 hown' hgrow'; refine Hid.out ?_))
          refine hid' ?_
          have hB' := below_grow (hW nq) (hZ nq) (hR nq) hgrow'
          rw [← HE.out, ← HF.out] at hown'
          have hlen' : (fold (l'.take (k + 1))).length = O.length + 2 := by rw [HF.out, HE.out]; simp
          have HR' : Hid (w3.ownsRow w2.heap.size 21 1 v' (fold (l'.take (k + 1))).length ((fold (l'.take (k + 1))).map (Value.int .i32))) := by
            show w3.ownsRow _ _ _ _ _ _
            rw [hlen']; exact hown'
          clear hown' hgrow' hR hZ hW hrow c1 c2 HE HF
          have HL' : Hid ((fold (l'.take (k + 1))).length ≤ 2 * (k + 1)) := by
            show _ ≤ _
            rw [hlen']; omega
          clear hlen'
          go_wp2
          go_roundw
          case rel => exact ⟨k + 1, by omega, by go_num, HR'.out, HL'.out, hB'⟩
          case measure => simp [intOf]; omega
      · obtain ⟨m, hm⟩ : ∃ m, O.length = m + 1 := ⟨O.length - 1, by omega⟩
        rcases Go.Joins.ownsRow_forms hrow with ⟨-, h00⟩ | ⟨g, cap, rfl⟩
        · omega
        obtain ⟨q, hq⟩ : ∃ q, O[m]?.getD 0 = q := ⟨_, rfl⟩
        have hcq : wr.cell? ⟨g, m, none⟩ = some (.int .i32 q) := by
          rw [hrow.cellAt m (by omega), List.getElem?_map, List.getElem?_eq_getElem (by omega)]
          rw [List.getElem?_eq_getElem (by omega)] at hq
          rw [← hq]; rfl
        have hglt : g < wr.heap.size := lt_of_cell hcq
        have hgb : w2.heap.size ≤ g := (hrow.lt g rfl).1
        have hcq2 : (wr.alloc (.cells #[.int .i32 x, .int .i32 y] 44)).cell? ⟨g, m, none⟩ = some (.int .i32 q) := by
          rw [← hcq]; exact World.cell?_of_block (Below.heap_alloc wr _ g hglt)
        have hfz := hrow.frozenAt m
        have hfz2 : (wr.alloc (.cells #[.int .i32 x, .int .i32 y] 44)).frozen? ⟨g, m, none⟩ = false := by
          rw [← hfz]; exact World.frozen?_of_block (Below.heap_alloc wr _ g hglt)
        have HQ : Hid (O[m]?.getD 0 = q) := hq
        have HM : Hid (O.length = m + 1) := hm
        have b1 : (m : Int) < ((m + 1 : Nat) : Int) := by omega
        have b0 : (0 : Int) ≤ (m : Int) := by omega
        simp only [hm] at hrow hR hfl ⊢
        clear hq hm h0
        by_cases hnear : x ≤ q
        · have HE : Hid (step O (x, y) = O.set m (max q (y + 1))) := by
            show step O (x, y) = _
            rw [step_near O (x, y) ⟨by have := HM.out; omega, by have := HM.out; have h5 := HQ.out; rw [this]; simp only [Nat.add_sub_cancel]; rw [h5]; exact hnear⟩, HM.out]
            simp only [Nat.add_sub_cancel]
            rw [HQ.out]
          clear hR hZ hW
          go_wp2_with fail
          go_quiet (fail)
          go_wp2_with fail
          go_region
          go_wp2_with fail
          go_roundw
          case rel =>
            have hst := (ownsRow_drewN (q := nq + 1) (hrow.alloc (.cells #[.int .i32 x, .int .i32 y] 44))).stored m (.int .i32 (max q (y + 1)))
            have hW1 : Below w2.heap.size w2 ((wr.alloc (.cells #[.int .i32 x, .int .i32 y] 44)).drewN (nq + 1)) := ⟨hW0.os, hW0.tape, hW0.output, hW0.size, hW0.block⟩
            have hl2 : (fold (l'.take (k + 1))).length = m + 1 := by rw [HF.out, HE.out, List.length_set, HM.out]
            refine ⟨k + 1, by omega, by go_num, ?_, by rw [hl2]; omega, hW1.setCell hgb _⟩
            rw [hl2, HF.out, HE.out, List.map_set]
            exact hst.1
          case measure => simp [intOf]; omega
        · have HE : Hid (step O (x, y) = O ++ [x, y + 1]) := step_far O (x, y) (by have := HM.out; have h5 := HQ.out; rw [this]; simp only [Nat.add_sub_cancel]; rw [h5]; omega)
          go_wp2_with fail
          go_quiet (fail)
          go_wp2_with ((at_builtin; refine wpList_append_ints rfl _ _ rfl w2.heap.size _ _ O rfl (hR nq) _ [x, y + 1] rfl (IntsAt.new2 _ _ _ (wr.heap.size + 1) (by simp)) (by simp only [List.length_cons, List.length_nil]; omega) (hZ nq) ?_; intro v' w3 hown' hgrow'; refine Hid.out ?_))
          refine hid' ?_
          have hB' := below_grow (hW nq) (hZ nq) (hR nq) hgrow'
          rw [← HE.out, ← HF.out] at hown'
          have hlen' : (fold (l'.take (k + 1))).length = m + 1 + 2 := by rw [HF.out, HE.out, List.length_append, HM.out]; rfl
          have HR' : Hid (w3.ownsRow w2.heap.size 21 1 v' (fold (l'.take (k + 1))).length ((fold (l'.take (k + 1))).map (Value.int .i32))) := by
            show w3.ownsRow _ _ _ _ _ _
            rw [hlen']; exact hown'
          clear hown' hgrow' hR hZ hW hrow c1 c2 HE HF
          have HL' : Hid ((fold (l'.take (k + 1))).length ≤ 2 * (k + 1)) := by
            show _ ≤ _
            rw [hlen']; omega
          clear hlen'
          go_wp2
          go_roundw
          case rel => exact ⟨k + 1, by omega, by go_num, HR'.out, HL'.out, hB'⟩
          case measure => simp [intOf]; omega
    · have hkk : k = l'.length := by omega
      rw [hkk, List.take_length] at hrow
      obtain ⟨hE, hEl⟩ := fold_edges l' HK.out HS.out
      have HE : Hid (IsEdges (fold l') (hasP l)) := ⟨hE.1, fun x => (hE.2 x).trans (hasP_perm HP.out x)⟩
      have HL : Hid ((fold l').length ≤ 2 * l.length) := by show _ ≤ _; rw [hll]; exact hEl
      clear hE hEl hs hs0 hbox hkk
      go_wp2
      go_ret
      exact ⟨_, fold l', rfl, HE.out, HL.out, Go.Joins.ownsRow_le hrow hB2.size, hB2.trans (hB.mono hB2.size)⟩
end Go.Proofs.YtlgnnljleooenaaDoor
