/- Texts of one layer, one behind the other: KG. -/
import Derived.Test.YtdncaehajhmcoaaGreatZK3
import Derived.RegionIn
/- Split's contract. -/
namespace Go.Proofs.YtdncaehajhmcoaaGreat.I
open Go.RowKit Go.Shelf
set_option linter.unusedVariables false
attribute [local go_sem] Oper.semAt_some

/-- append onto a row of one's own, as one step of a region that draws its order, inside a fence. -/
theorem stepIn_append {F : Fence} {n : Nat} {P : Program} {ops : Array Oper} {w : World} {o : Oper} {a : Act} {K : Act → World → Prop} {Q : Exit → Act → World → Prop} {E : Prop}
    (hg : o.guard = none) (s x : Operand) (t : TypeId) (hop : o.op = Op.call { callee := Callee.builtin Builtin.append, args := #[s, x], argTypes := #[t, t] })
    (base : Nat) (e : TypeId) (i : TypeInfo) (z : Value) (size bytes : Nat) (h1 : P.underlying t = some (.slice e)) (h2 : P.info? e = some i) (h3 : i.zero = some z) (h4 : i.size = size) (h5 : i.bytes = bytes) (h6 : z.cells.size = size) (h7 : 0 < size)
    (v : Value) (k : Nat) (xs : List Value) (hs : a.eval s = v) (hown : w.ownsRow base e size v k xs) (ad : Addr) (m c : Nat) (news : List Value) (hx : a.eval x = .slice (some ad) m c) (hn : news.length = m * size)
    (hc : ∀ j u, news[j]? = some u → w.cell? (ad.add j) = some u) (h1c : ∀ u ∈ news, u.oneCell' = true) (b1 : k + m ≤ maxLen) (b2 : (k + m) * bytes ≤ 140737488355328) (b3 : base ≤ w.heap.size)
    (hK : ∀ v' w', w'.ownsRow base e size v' (k + m) (xs ++ news) → w.grownBy w' v.ownBlock → (v' = .slice none 0 0 ↔ v = .slice none 0 0 ∧ m = 0) → K (a.put o.dst v') w') :
    if Region.wanted o (yielded ops a.tmps) = true then Oper.wpIn F n P o a w K Q else E := by
  have hw : Region.wanted o (yielded ops a.tmps) = true := by simp [Region.wanted, hg]
  rw [if_pos hw]
  obtain ⟨v', w', hrun, r1, r2, r3⟩ := run_append_own (P := P) w base t o.type e i z size bytes h1 h2 h3 h4 h5 h6 h7 v k xs hown ad m c news hn hc h1c b1 b2 b3
  unfold Oper.wpIn
  refine ⟨?_, ?_⟩
  · simp [Oper.about, hop, resolve, Target.leads, Sem.run_pure]
  · rw [Oper.semAt_plain F _ _ (by rw [hop]; intro c hc'; cases hc')]
    simp [execOp, hop, resolve, invoke, builtin, hs, hx, hrun, Result.andThen]
    exact hK v' w' r1 r2 r3
set_option maxRecDepth 100000 in
set_option maxHeartbeats 4000000 in
theorem split_any (v : Value) (l : List Int) (w : World) (hlen : l.length ≤ 10000) (hv : El w v l) :
    Calls Tryz.prog 19 #[v] w fun e W' => GivesR (spl l) w e W' := by
  obtain ⟨i0, hi, hz0, hz1, hz2⟩ := info_parts infoR
  obtain ⟨a, c, e0, -⟩ := hv.1
  obtain ⟨n, hn⟩ : ∃ n, l.length = n := ⟨_, rfl⟩
  have HN := hid hn
  have HCUT := hid (cuts_lab n l hn)
  rw [hn] at e0 hlen
  subst e0
  refine (callsIn_wide (n := 3)).1 ?_
  refine callsIn_of_wp_marks Tryz.func19 rfl trivial ?_ rfl
  simp only [Tryz.ntmps19, List.size_toArray, List.length_cons, List.length_nil, Nat.reduceAdd, Nat.reduceSub, Array.replicate_succ, Array.replicate_zero, List.push_toArray, List.append_toArray, List.nil_append, List.cons_append]
  gi_wp2_with fail
  refine ⟨trivial, ?_⟩
  refine (dots_make _ _ _ ⟨_, _, _, rfl⟩).mono ?_
  rintro e w' ⟨rfl, rfl⟩
  gi_wp2_with fail
  have bO := Boxed.new w 28 (.slice none 0 0)
  have bN := Boxed.new (w.alloc (.cells #[.slice none 0 0] 28)) 34 (.slice a n c)
  have hB0 : Below w.heap.size w ((w.alloc (.cells #[.slice none 0 0] 28)).alloc (.cells #[.slice a n c] 34)) := ((Below.refl _ w).alloc (Nat.le_refl _) _).alloc (by simp) _
  have bO2 := bO.alloc (.cells #[.slice a n c] 34)
  obtain ⟨W0, hW0⟩ : ∃ W0, (w.alloc (.cells #[.slice none 0 0] 28)).alloc (.cells #[.slice a n c] 34) = W0 := ⟨_, rfl⟩
  have hs0 : W0.heap.size = w.heap.size + 2 := by rw [← hW0]; simp
  rw [hW0] at bN hB0 bO2 ⊢
  rw [World.size_alloc] at bN
  have hbx : Bx (w.heap.size + 1) (.slice a n c) l W0 := ⟨bN, hv.below hB0⟩
  have hSo : So w W0 W0.heap.size (w.heap.size + 1) w.heap.size (.slice a n c) l (.slice none 0 0) [] [] :=
    ⟨hbx, bO2, World.ownsRow_nil _ _ _ _, Els.nil _, hB0, by omega, Nat.le_refl _, by omega, Nat.le_refl _⟩
  clear bO bN bO2 hW0
  refine wpIn_rangeFunc_ownG rfl (by omega) (gf := 61) (lb := #[.pointer (some ⟨w.heap.size + 1, 0, none⟩)]) rfl trivial (enters_of Tryz.func61 (by kernel_rfl) rfl)
    (dots_stops 2 (by omega) (w.heap.size + 1) a n c l HN.out (by omega) W0 hbx) keepsL_t (keepsL_b (w := W0)) (Below.refl _ _) (fun _ => rfl)
    (fun pre W => ∃ vo vs, So w W W0.heap.size (w.heap.size + 1) w.heap.size (.slice a n c) l vo vs (labs n l pre))
    (fun _ _ _ => False)
    (fun s X Y row hs hg hr => by obtain ⟨vo, vs, h⟩ := hs; exact ⟨vo, vs, h.from_other hg hr⟩)
    (fun _ _ _ _ _ hs _ _ => hs)
    ⟨_, _, hSo⟩
    (fun x => { tmps := #[.slice a n c, undef, .slice none 0 0, .pointer (some ⟨w.heap.size, 0, none⟩), pcv a x.1, .slice a n c, .func (.func 61) #[] #[.pointer (some ⟨w.heap.size + 1, 0, none⟩)], pcv a x.1, undef, undef, undef, undef, undef, undef], defers := [] }) ?assign ?body ?done ?stop
  case assign =>
    intro lp x W K hK
    obtain ⟨a', k', c', hu⟩ := pcv_sh a x.1
    rw [hu] at hK
    gi_wp2
    first | exact hK | (rw [hu]; exact hK)
  case body =>
    rintro lp pre x W ⟨vo, vs, hS⟩ hlt
    have hel := hS.bx.el.piece HN.out x
    have hll := lab_len l n x
    have HC := hid (fun W1 (h : Below W.heap.size W W1) => copied_any _ _ W1 (by omega) (hel.below h))
    have HS := hid hS
    have HLS := hid (labs_snoc n l pre x)
    have hpl := labs_len n l pre
    obtain ⟨a', k', c', hu⟩ := pcv_sh a x.1
    rw [hu] at HC ⊢
    obtain ⟨y, hy⟩ : ∃ y, lab l x.1 = y := ⟨_, rfl⟩
    rw [hy] at HC HLS
    obtain ⟨Y, hY⟩ : ∃ Y, labs n l pre = Y := ⟨_, rfl⟩
    rw [hY] at HS HLS hpl
    obtain ⟨m, hm⟩ : ∃ m, Y.length = m := ⟨_, rfl⟩
    have HM := hid hm
    rw [hm] at hpl
    have hc := HS.out.bo.cell
    obtain ⟨ao, co, hvo⟩ := own_sh22 HS.out.out
    rw [HM.out] at hvo
    subst hvo
    clear hu hy hY hm hel hS
    have hmx : Tryz.prog.follows .mixedOrders = true := by kernel_rfl
    have hmb : m ≤ 10001 := by omega
    have hbd : Below W.heap.size W W.drew := (Below.refl _ W).drew
    have HSD := hid (HS.out.below hbd)
    have HCD := hid (HC.out _ hbd)
    unfold N.Gives at HCD
    obtain ⟨q, hq⟩ : ∃ q, y.length = q := ⟨_, rfl⟩
    rw [hq] at HCD
    have HQ := hid hq
    clear hpl HC hbd hq
    gi_wp2_with fail
    refine wpIn_region_any hmx ?_
    change wpAnyIn _ _ _ _ _ _ _ _ _ (World.drew _)
    refine wpAnyIn_ready (rs := [0, 1]) (by kernel_rfl) (by simp) ?_
    refine AllReadyIn.cons rfl (fun K hK => ?_) ?_
    · go_simp
      refine hK _ _ ?_
      clear hK K
      refine wpAnyIn_ready (rs := [1]) (by kernel_rfl) (by simp) ?_
      refine AllReadyIn.cons rfl (fun K hK => ?_) ?_
      · go_simp
        refine hK _ _ ?_
        clear hK K
        refine wpAnyIn_ready (rs := [2]) (by kernel_rfl) (by simp) ?_
        refine AllReadyIn.cons rfl (fun K hK => ?_) ?_
        · go_simp
          refine ⟨trivial, ?_⟩
          refine (CallsIn.inRound lp (callsIn_wide.2 HCD.out)).mono ?_
          rintro e w2 ⟨v2, rfl, r2, B2⟩
          have HE2 := hid (El.own HQ.out.symm r2)
          obtain ⟨a2, c2, rfl⟩ := own_sh21 r2
          have HS2 := hid (HSD.out.below B2)
          have hc2 := HS2.out.bo.cell
          have hc2a := (HS2.out.bo.alloc (.cells #[.slice a2 q c2] 34)).cell
          have HB2 := hid B2
          clear r2 B2
          refine hK _ _ ?_
          clear hK K
          refine wpAnyIn_ready (rs := [3]) (by kernel_rfl) (by simp) ?_
          refine AllReadyIn.cons rfl (fun K hK => ?_) ?_
          · go_simp
            refine hK _ _ ?_
            clear hK K
            refine wpAnyIn_ready (rs := [4]) (by kernel_rfl) (by simp) ?_
            refine AllReadyIn.cons rfl (fun K hK => ?_) ?_
            · refine stepIn_append rfl _ _ 28 rfl W0.heap.size 34 i0 (.slice none 0 0) 1 24 Tryz.underlying28 hi hz0 hz1 hz2 rfl (by decide) _ m vs rfl (by have h := HS2.out.out.alloc (.cells #[.slice a2 q c2] 34); rw [HM.out] at h; exact h) ⟨w2.heap.size, 0, none⟩ 1 1 [.slice a2 q c2] rfl rfl (cell_one_new _ _ _) (by simp [Value.oneCell']) (by unfold maxLen; omega) (by omega) (by have := HS2.out.b4; simp; omega) ?_
              intro v3 w3 r3 g3 _
              obtain ⟨a3, c3, rfl⟩ := own_sh22 r3
              have HPU := hid (HS2.out.push HE2.out (by rw [HM.out]; exact r3) g3)
              have HKO := hid (keeps_grown (HS2.out.out.alloc (.cells #[.slice a2 q c2] 34)) (by first | exact g3 | (rw [HM.out]; exact g3)))
              have hc3 := HPU.out.1.cell
              have hf3 := HPU.out.1.frozen
              clear r3 g3
              refine hK _ _ ?_
              clear hK K
              refine wpAnyIn_ready (rs := [5]) (by kernel_rfl) (by simp) ?_
              refine AllReadyIn.cons rfl (fun K hK => ?_) ?_
              · go_simp
                refine hK _ _ ?_
                clear hK K
                refine wpAnyIn_done (by kernel_rfl) ?_ _
                gi_wp2
                exact ⟨(((((KeepsOthers.drew W).trans (L.keeps_below HB2.out)).trans (KeepsOthers.alloc _ _)).trans HKO.out).trans (KeepsOthers.setCell _ _ _)).from _, fun _ => HPU.out.2.bx, _, _, by rw [HLS.out]; exact HPU.out.2⟩
              exact AllReadyIn.nil
            exact AllReadyIn.nil
          exact AllReadyIn.nil
        exact AllReadyIn.nil
      exact AllReadyIn.nil
    refine AllReadyIn.cons rfl (fun K hK => ?_) ?_
    · go_simp
      refine hK _ _ ?_
      clear hK K
      refine wpAnyIn_ready (rs := [0, 2]) (by kernel_rfl) (by simp) ?_
      refine AllReadyIn.cons rfl (fun K hK => ?_) ?_
      · go_simp
        refine hK _ _ ?_
        clear hK K
        refine wpAnyIn_ready (rs := [2]) (by kernel_rfl) (by simp) ?_
        refine AllReadyIn.cons rfl (fun K hK => ?_) ?_
        · go_simp
          refine ⟨trivial, ?_⟩
          refine (CallsIn.inRound lp (callsIn_wide.2 HCD.out)).mono ?_
          rintro e w2 ⟨v2, rfl, r2, B2⟩
          have HE2 := hid (El.own HQ.out.symm r2)
          obtain ⟨a2, c2, rfl⟩ := own_sh21 r2
          have HS2 := hid (HSD.out.below B2)
          have hc2 := HS2.out.bo.cell
          have hc2a := (HS2.out.bo.alloc (.cells #[.slice a2 q c2] 34)).cell
          have HB2 := hid B2
          clear r2 B2
          refine hK _ _ ?_
          clear hK K
          refine wpAnyIn_ready (rs := [3]) (by kernel_rfl) (by simp) ?_
          refine AllReadyIn.cons rfl (fun K hK => ?_) ?_
          · go_simp
            refine hK _ _ ?_
            clear hK K
            refine wpAnyIn_ready (rs := [4]) (by kernel_rfl) (by simp) ?_
            refine AllReadyIn.cons rfl (fun K hK => ?_) ?_
            · refine stepIn_append rfl _ _ 28 rfl W0.heap.size 34 i0 (.slice none 0 0) 1 24 Tryz.underlying28 hi hz0 hz1 hz2 rfl (by decide) _ m vs rfl (by have h := HS2.out.out.alloc (.cells #[.slice a2 q c2] 34); rw [HM.out] at h; exact h) ⟨w2.heap.size, 0, none⟩ 1 1 [.slice a2 q c2] rfl rfl (cell_one_new _ _ _) (by simp [Value.oneCell']) (by unfold maxLen; omega) (by omega) (by have := HS2.out.b4; simp; omega) ?_
              intro v3 w3 r3 g3 _
              obtain ⟨a3, c3, rfl⟩ := own_sh22 r3
              have HPU := hid (HS2.out.push HE2.out (by rw [HM.out]; exact r3) g3)
              have HKO := hid (keeps_grown (HS2.out.out.alloc (.cells #[.slice a2 q c2] 34)) (by first | exact g3 | (rw [HM.out]; exact g3)))
              have hc3 := HPU.out.1.cell
              have hf3 := HPU.out.1.frozen
              clear r3 g3
              refine hK _ _ ?_
              clear hK K
              refine wpAnyIn_ready (rs := [5]) (by kernel_rfl) (by simp) ?_
              refine AllReadyIn.cons rfl (fun K hK => ?_) ?_
              · go_simp
                refine hK _ _ ?_
                clear hK K
                refine wpAnyIn_done (by kernel_rfl) ?_ _
                gi_wp2
                exact ⟨(((((KeepsOthers.drew W).trans (L.keeps_below HB2.out)).trans (KeepsOthers.alloc _ _)).trans HKO.out).trans (KeepsOthers.setCell _ _ _)).from _, fun _ => HPU.out.2.bx, _, _, by rw [HLS.out]; exact HPU.out.2⟩
              exact AllReadyIn.nil
            exact AllReadyIn.nil
          exact AllReadyIn.nil
        exact AllReadyIn.nil
      refine AllReadyIn.cons rfl (fun K hK => ?_) ?_
      · go_simp
        refine ⟨trivial, ?_⟩
        refine (CallsIn.inRound lp (callsIn_wide.2 HCD.out)).mono ?_
        rintro e w2 ⟨v2, rfl, r2, B2⟩
        have HE2 := hid (El.own HQ.out.symm r2)
        obtain ⟨a2, c2, rfl⟩ := own_sh21 r2
        have HS2 := hid (HSD.out.below B2)
        have hc2 := HS2.out.bo.cell
        have hc2a := (HS2.out.bo.alloc (.cells #[.slice a2 q c2] 34)).cell
        have HB2 := hid B2
        clear r2 B2
        refine hK _ _ ?_
        clear hK K
        refine wpAnyIn_ready (rs := [0, 3]) (by kernel_rfl) (by simp) ?_
        refine AllReadyIn.cons rfl (fun K hK => ?_) ?_
        · go_simp
          refine hK _ _ ?_
          clear hK K
          refine wpAnyIn_ready (rs := [3]) (by kernel_rfl) (by simp) ?_
          refine AllReadyIn.cons rfl (fun K hK => ?_) ?_
          · go_simp
            refine hK _ _ ?_
            clear hK K
            refine wpAnyIn_ready (rs := [4]) (by kernel_rfl) (by simp) ?_
            refine AllReadyIn.cons rfl (fun K hK => ?_) ?_
            · refine stepIn_append rfl _ _ 28 rfl W0.heap.size 34 i0 (.slice none 0 0) 1 24 Tryz.underlying28 hi hz0 hz1 hz2 rfl (by decide) _ m vs rfl (by have h := HS2.out.out.alloc (.cells #[.slice a2 q c2] 34); rw [HM.out] at h; exact h) ⟨w2.heap.size, 0, none⟩ 1 1 [.slice a2 q c2] rfl rfl (cell_one_new _ _ _) (by simp [Value.oneCell']) (by unfold maxLen; omega) (by omega) (by have := HS2.out.b4; simp; omega) ?_
              intro v3 w3 r3 g3 _
              obtain ⟨a3, c3, rfl⟩ := own_sh22 r3
              have HPU := hid (HS2.out.push HE2.out (by rw [HM.out]; exact r3) g3)
              have HKO := hid (keeps_grown (HS2.out.out.alloc (.cells #[.slice a2 q c2] 34)) (by first | exact g3 | (rw [HM.out]; exact g3)))
              have hc3 := HPU.out.1.cell
              have hf3 := HPU.out.1.frozen
              clear r3 g3
              refine hK _ _ ?_
              clear hK K
              refine wpAnyIn_ready (rs := [5]) (by kernel_rfl) (by simp) ?_
              refine AllReadyIn.cons rfl (fun K hK => ?_) ?_
              · go_simp
                refine hK _ _ ?_
                clear hK K
                refine wpAnyIn_done (by kernel_rfl) ?_ _
                gi_wp2
                exact ⟨(((((KeepsOthers.drew W).trans (L.keeps_below HB2.out)).trans (KeepsOthers.alloc _ _)).trans HKO.out).trans (KeepsOthers.setCell _ _ _)).from _, fun _ => HPU.out.2.bx, _, _, by rw [HLS.out]; exact HPU.out.2⟩
              exact AllReadyIn.nil
            exact AllReadyIn.nil
          exact AllReadyIn.nil
        refine AllReadyIn.cons rfl (fun K hK => ?_) ?_
        · go_simp
          refine hK _ _ ?_
          clear hK K
          refine wpAnyIn_ready (rs := [0]) (by kernel_rfl) (by simp) ?_
          refine AllReadyIn.cons rfl (fun K hK => ?_) ?_
          · go_simp
            refine hK _ _ ?_
            clear hK K
            refine wpAnyIn_ready (rs := [4]) (by kernel_rfl) (by simp) ?_
            refine AllReadyIn.cons rfl (fun K hK => ?_) ?_
            · refine stepIn_append rfl _ _ 28 rfl W0.heap.size 34 i0 (.slice none 0 0) 1 24 Tryz.underlying28 hi hz0 hz1 hz2 rfl (by decide) _ m vs rfl (by have h := HS2.out.out.alloc (.cells #[.slice a2 q c2] 34); rw [HM.out] at h; exact h) ⟨w2.heap.size, 0, none⟩ 1 1 [.slice a2 q c2] rfl rfl (cell_one_new _ _ _) (by simp [Value.oneCell']) (by unfold maxLen; omega) (by omega) (by have := HS2.out.b4; simp; omega) ?_
              intro v3 w3 r3 g3 _
              obtain ⟨a3, c3, rfl⟩ := own_sh22 r3
              have HPU := hid (HS2.out.push HE2.out (by rw [HM.out]; exact r3) g3)
              have HKO := hid (keeps_grown (HS2.out.out.alloc (.cells #[.slice a2 q c2] 34)) (by first | exact g3 | (rw [HM.out]; exact g3)))
              have hc3 := HPU.out.1.cell
              have hf3 := HPU.out.1.frozen
              clear r3 g3
              refine hK _ _ ?_
              clear hK K
              refine wpAnyIn_ready (rs := [5]) (by kernel_rfl) (by simp) ?_
              refine AllReadyIn.cons rfl (fun K hK => ?_) ?_
              · go_simp
                refine hK _ _ ?_
                clear hK K
                refine wpAnyIn_done (by kernel_rfl) ?_ _
                gi_wp2
                exact ⟨(((((KeepsOthers.drew W).trans (L.keeps_below HB2.out)).trans (KeepsOthers.alloc _ _)).trans HKO.out).trans (KeepsOthers.setCell _ _ _)).from _, fun _ => HPU.out.2.bx, _, _, by rw [HLS.out]; exact HPU.out.2⟩
              exact AllReadyIn.nil
            exact AllReadyIn.nil
          exact AllReadyIn.nil
        exact AllReadyIn.nil
      exact AllReadyIn.nil
    exact AllReadyIn.nil
  case done =>
    rintro D ys W hD rfl ⟨vo, vs, hS⟩ hK
    have hc := hS.bo.cell
    have HS := hid hS
    have HE : Hid (labs n l (cuts n l) = spl l) := HCUT.out
    clear hS
    gi_wp2
    refine ⟨by simp, .inl ⟨_, _, rfl, run_takeDeferred hK, ?_⟩⟩
    have hr : ∀ r, some D = some r → ∃ o : Obj, W.heap[r]? = some o ∧ o.isCells = false := fun r e => by cases e; exact ⟨_, hK, rfl⟩
    have h2 := HS.out.from_other (grownBy_putObj' W D (.deferred none)) (fun r e => by cases e; exact ⟨hD, _, hK, rfl⟩)
    rw [HE.out] at h2
    exact ⟨_, results_tmp rfl _ _ _, vo, vs, rfl, own_base' h2.out h2.b3, h2.els, h2.be⟩
  case stop =>
    rintro D c pre W _ _ h _
    exact h.elim
end Go.Proofs.YtdncaehajhmcoaaGreat.I
