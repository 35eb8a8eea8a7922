/- Texts of one layer, one behind the other: KI. -/
import Derived.Test.YtdncaehajhmcoaaGreatZK4
/- A name processed: the contract. -/
namespace Go.Proofs.YtdncaehajhmcoaaGreat.I
open Go.RowKit Go.Shelf
set_option linter.unusedVariables false
attribute [local go_sem] Oper.semAt_some

theorem results_cells {fn : Func} {p u : Tmp} {ty tz : TypeId} (h : fn.results = #[.cell p ty, .cell u tz]) (tmps : Array Value) (P : Program) (w : World) :
    (results fn tmps).run P w =
      ((asAddr (tmps.getD p undef)).run P w).andThen fun a w₁ => ((loadVar ty a).run P w₁).andThen fun v w₂ => ((asAddr (tmps.getD u undef)).run P w₂).andThen fun b w₃ => ((loadVar tz b).run P w₃).andThen fun x w₄ => .ok (.tuple #[v, x]) w₄ := by
  simp only [results, h]
  simp [Sem.run_bind, Result.andThen]
/-- The last of labels. -/
theorem Els.lastE {W : World} {vs : List Value} {ls : List (List Int)} {u : Value} {l : List Int} {m : Nat} (h : Els W (vs ++ [u]) (ls ++ [l])) (hm : ls.length = m) : El W u l := by
  have hv : vs.length = ls.length := by have := h.1; simpa using this
  have := h.2 ls.length (by simp)
  rw [List.getElem?_append_right (by rw [hv]; exact Nat.le_refl _), List.getElem?_append_right (Nat.le_refl _), hv, Nat.sub_self] at this
  exact this
def ysP (n : Nat) (X : List Int) (hy : Bool) (pre : List (Pc n)) : List (List Int × Int) := pre.map fun p => one (lab X p.1) hy
theorem ysP_snoc (n : Nat) (X : List Int) (hy : Bool) (pre : List (Pc n)) (x : Pc n) : ysP n X hy (pre ++ [x]) = ysP n X hy pre ++ [one (lab X x.1) hy] := by simp [ysP]
theorem lab_scal {X : List Int} (h : Scs X) (p : Nat × Nat) : Scs (lab X p) := fun c hc => h c (List.mem_of_mem_drop (List.mem_of_mem_take hc))
theorem Qr.of {w W : World} {B0 Bl Bo Bh Bf Br : Nat} {v vo vf : Value} {l : List Int} {vs : List Value} {hy rt : Bool} {ys : List (List Int × Int)} (hs : So w W B0 Bl Bo v l vo vs (ys.map (·.1))) (h : Pf w W B0 Bh Bf Br hy rt vf (ys.map (·.2))) : Qr B0 W vo vf ys.length vs ys :=
  ⟨by have := hs.out; rwa [List.length_map] at this, hs.els, by have := h.flt; rw [List.length_map, List.map_map] at this; exact this, rfl⟩
set_option maxRecDepth 100000 in
set_option maxHeartbeats 8000000 in
theorem process_any (s : ByteArray) (hy : Bool) (w : World) (hs : s.size ≤ 4096) :
    Calls Tryz.prog 13 #[.string s, .bool hy] w fun e W' => ProcR (prc (Mp (U.dec (U.bn s))) hy) w e W' := by
  obtain ⟨i0, hi, hz0, hz1, hz2⟩ := info_parts infoR
  obtain ⟨i1, hj, hy0, hy1, hy2⟩ := info_parts infoU16
  have HMP := hid (fun W => map_any s W hs)
  have hml := Mp_lenl (U.bn s) (U.bn_bytes s)
  have HSX := hid (Mp_scal _ (dec_scs _ (U.bn_bytes s)))
  rw [U.bn_length] at hml
  obtain ⟨X, hX⟩ : ∃ X, Mp (U.dec (U.bn s)) = X := ⟨_, rfl⟩
  rw [hX] at HMP hml HSX ⊢
  obtain ⟨n, hn⟩ : ∃ n, X.length = n := ⟨_, rfl⟩
  have HN := hid hn
  have HCUT := hid (cuts_lab n X hn)
  unfold N.Gives at HMP
  rw [hn] at hml HMP
  have hnb : n ≤ 8192 := by omega
  clear hX hn hml
  refine (callsIn_wide (n := 3)).1 ?_
  refine callsIn_of_wp_marks Tryz.func13 rfl trivial ?_ rfl
  simp only [Tryz.ntmps13, List.size_toArray, List.length_cons, List.length_nil, Nat.reduceAdd, Nat.reduceSub, Array.replicate_succ, Array.replicate_zero, List.push_toArray, List.append_toArray, List.nil_append, List.cons_append]
  gi_wp2_with fail
  refine ⟨trivial, ?_⟩
  refine (callsIn_wide.2 (HMP.out _)).mono ?_
  rintro e w5 ⟨v5, rfl, r5, B5⟩
  obtain ⟨a, c, rfl⟩ := own_sh21 r5
  gi_wp2_with fail
  refine ⟨trivial, ?_⟩
  refine (dots_make _ _ _ ⟨_, _, _, rfl⟩).mono ?_
  rintro e w' ⟨rfl, rfl⟩
  gi_wp2_with fail
  have b0 := Boxed.new w 4 (.bool hy)
  have b1 := Boxed.new (w.alloc (.cells #[.bool hy] 4)) 28 (.slice none 0 0)
  have b2 := Boxed.new ((w.alloc (.cells #[.bool hy] 4)).alloc (.cells #[.slice none 0 0] 28)) 29 (.slice none 0 0)
  have b3 := Boxed.new (((w.alloc (.cells #[.bool hy] 4)).alloc (.cells #[.slice none 0 0] 28)).alloc (.cells #[.slice none 0 0] 29)) 4 (.bool false)
  simp only [World.size_alloc] at b1 b2 b3
  replace b0 := ((b0.alloc (.cells #[.slice none 0 0] 28)).alloc (.cells #[.slice none 0 0] 29)).alloc (.cells #[.bool false] 4)
  replace b1 := (b1.alloc (.cells #[.slice none 0 0] 29)).alloc (.cells #[.bool false] 4)
  replace b2 := b2.alloc (.cells #[.bool false] 4)
  have bb : Below w.heap.size w ((((w.alloc (.cells #[.bool hy] 4)).alloc (.cells #[.slice none 0 0] 28)).alloc (.cells #[.slice none 0 0] 29)).alloc (.cells #[.bool false] 4)) :=
    ((((Below.refl _ w).alloc (Nat.le_refl _) _).alloc (by simp) _).alloc (by simp; omega) _).alloc (by simp; omega) _
  have hw4 : ((((w.alloc (.cells #[.bool hy] 4)).alloc (.cells #[.slice none 0 0] 28)).alloc (.cells #[.slice none 0 0] 29)).alloc (.cells #[.bool false] 4)).heap.size = w.heap.size + 4 := by simp
  obtain ⟨w4, hw⟩ : ∃ w4, (((w.alloc (.cells #[.bool hy] 4)).alloc (.cells #[.slice none 0 0] 28)).alloc (.cells #[.slice none 0 0] 29)).alloc (.cells #[.bool false] 4) = w4 := ⟨_, rfl⟩
  rw [hw] at b0 b1 b2 b3 bb hw4 r5 B5
  have hz5 := B5.size
  have c0 := (B5.block _ b0.lt).trans b0
  have c1 := (B5.block _ b1.lt).trans b1
  have c2 := (B5.block _ b2.lt).trans b2
  have c3 := (B5.block _ b3.lt).trans b3
  have bl := Boxed.new w5 34 (.slice a n c)
  have b5 := bb.trans (B5.mono (by omega))
  have el5 := El.own HN.out.symm r5
  have ba := below_alloc w5 (.cells #[.slice a n c] 34)
  obtain ⟨W0, hW0⟩ : ∃ W0, w5.alloc (.cells #[.slice a n c] 34) = W0 := ⟨_, rfl⟩
  have hs0 : W0.heap.size = w5.heap.size + 1 := by rw [← hW0]; simp
  rw [hW0] at bl ba ⊢
  have d0 : Boxed W0 _ _ _ := (ba.block _ (Array.getElem?_eq_some_iff.1 c0).1).trans c0
  have d1 : Boxed W0 _ _ _ := (ba.block _ (Array.getElem?_eq_some_iff.1 c1).1).trans c1
  have d2 : Boxed W0 _ _ _ := (ba.block _ (Array.getElem?_eq_some_iff.1 c2).1).trans c2
  have d3 : Boxed W0 _ _ _ := (ba.block _ (Array.getElem?_eq_some_iff.1 c3).1).trans c3
  have hB0 := b5.trans (ba.mono (by omega))
  have hbx : Bx w5.heap.size (.slice a n c) X W0 := ⟨bl, el5.below ba⟩
  have hSo : So w W0 W0.heap.size w5.heap.size (w.heap.size + 1) (.slice a n c) X (.slice none 0 0) [] ((ysP n X hy []).map (·.1)) :=
    ⟨hbx, d1, World.ownsRow_nil _ _ _ _, Els.nil _, hB0, by omega, by omega, by omega, Nat.le_refl _⟩
  have hPf : Pf w W0 W0.heap.size w.heap.size (w.heap.size + 1 + 1) (w.heap.size + 1 + 1 + 1) hy (anyR (ysP n X hy [])) (.slice none 0 0) ((ysP n X hy []).map (·.2)) :=
    ⟨d0, d2, d3, World.ownsRow_nil _ _ _ _, by omega, by omega, by omega⟩
  have hzz : w.heap.size + 4 ≤ w5.heap.size := by omega
  have HB0 := hid hB0
  clear b0 b1 b2 b3 bb hw4 hw r5 B5 c0 c1 c2 c3 bl b5 el5 ba hW0 d0 d1 d2 d3 hB0 HMP hz5
  refine wpIn_rangeFunc_ownG rfl (by omega) (gf := 61) (lb := #[.pointer (some ⟨w5.heap.size, 0, none⟩)]) rfl trivial (enters_of Tryz.func61 (by kernel_rfl) rfl)
    (dots_stops 2 (by omega) w5.heap.size a n c X HN.out (by omega) W0 hbx) keepsL_t (keepsL_b (w := W0)) (Below.refl _ _) (fun _ => rfl)
    (fun pre W => ∃ vo vf vs, So w W W0.heap.size w5.heap.size (w.heap.size + 1) (.slice a n c) X vo vs ((ysP n X hy pre).map (·.1)) ∧ Pf w W W0.heap.size w.heap.size (w.heap.size + 1 + 1) (w.heap.size + 1 + 1 + 1) hy (anyR (ysP n X hy pre)) vf ((ysP n X hy pre).map (·.2)))
    (fun _ _ _ => False)
    (fun s X Y row hs hg hr => by obtain ⟨vo, vf, vs, h, h'⟩ := hs; exact ⟨vo, vf, vs, h.from_other hg hr, h'.from_other hg (fun r e => (hr r e).2)⟩)
    (fun _ _ _ _ _ hs _ _ => hs)
    ⟨_, _, _, hSo, hPf⟩
    (fun x => { tmps := #[.string s, .bool hy, undef, .pointer (some ⟨w.heap.size, 0, none⟩), .pointer (some ⟨w.heap.size + 1, 0, none⟩), .pointer (some ⟨w.heap.size + 1 + 1, 0, none⟩), .pointer (some ⟨w.heap.size + 1 + 1 + 1, 0, none⟩), pcv a x.1, undef, undef, .string s, .slice a n c, .func (.func 61) #[] #[.pointer (some ⟨w5.heap.size, 0, none⟩)], pcv a x.1, undef, undef, undef, undef, undef, undef, undef, undef, undef, undef, undef, undef, undef, undef, undef, undef, undef, undef, undef, undef, undef, undef, undef, undef, undef], defers := [] }) ?assign ?body ?done ?stop
  case assign =>
    intro lp x W K hK
    obtain ⟨a', k', c', hu⟩ := pcv_sh a x.1
    rw [hu] at hK
    gi_wp2
    first | exact hK | (rw [hu]; exact hK)
  case body =>
    rintro lp pre x W ⟨vo, vf, vs, hS, hP⟩ hlt
    have hel := hS.bx.el.piece HN.out x
    have hll := lab_len X n x
    have HONE := hid (taken_any _ _ hy W (by omega) (lab_scal HSX.out x.1) hel)
    have HYS := hid (ysP_snoc n X hy pre x)
    have HAS := hid (anyR_snoc (ysP n X hy pre) (one (lab X x.1) hy))
    have hpl : (ysP n X hy pre).length = pre.length := by simp [ysP]
    have hol := one_len (lab X x.1) hy (by omega)
    have ho0 := one_nonneg (lab X x.1) hy
    have ho1 := one_le (lab X x.1) hy
    obtain ⟨a', k', c', hu⟩ := pcv_sh a x.1
    rw [hu] at HONE ⊢
    unfold OneR at HONE
    obtain ⟨⟨l', f⟩, hlf⟩ : ∃ y, one (lab X x.1) hy = y := ⟨_, rfl⟩
    rw [hlf] at HONE HYS HAS hol ho0 ho1
    simp only at HONE hol ho0 ho1 HAS
    obtain ⟨q, hq⟩ : ∃ q, l'.length = q := ⟨_, rfl⟩
    have HQ := hid hq
    rw [hq] at hol
    obtain ⟨Ys, hYs⟩ : ∃ Ys, ysP n X hy pre = Ys := ⟨_, rfl⟩
    rw [hYs] at hS hP HYS HAS hpl
    obtain ⟨Y1, hY1⟩ : ∃ Y1, Ys.map (·.1) = Y1 := ⟨_, rfl⟩
    obtain ⟨Y2, hY2⟩ : ∃ Y2, Ys.map (·.2) = Y2 := ⟨_, rfl⟩
    have HY1 := hid hY1
    have HY2 := hid hY2
    rw [hY1] at hS
    rw [hY2] at hP
    obtain ⟨m, hm⟩ : ∃ m, Ys.length = m := ⟨_, rfl⟩
    have HM1 : Hid (Y1.length = m) := by show _ = _; rw [← hY1, List.length_map]; exact hm
    have HM2 : Hid (Y2.length = m) := by show _ = _; rw [← hY2, List.length_map]; exact hm
    have hmb : m ≤ 8193 := by omega
    have HS := hid hS
    have HP := hid hP
    obtain ⟨ao, co, hvo⟩ := own_sh22 HS.out.out
    rw [HM1.out] at hvo
    subst hvo
    obtain ⟨af, cf, hvf⟩ := own_sh16 HP.out.flt
    rw [HM2.out] at hvf
    subst hvf
    have hch := HP.out.bh.cell
    obtain ⟨rt, hrt⟩ : ∃ rt, anyR Ys = rt := ⟨_, rfl⟩
    rw [hrt] at HP HAS
    clear hu hlf hq hYs hY1 hY2 hm hel hS hP hpl hll hrt hSo hPf hbx
    obtain ⟨gr, hgr⟩ : ∃ gr, L.goesR l' = gr := ⟨_, rfl⟩
    have HGR := hid hgr
    rw [hgr] at HAS
    have HAS' : Hid (anyR (ysP n X hy (pre ++ [x])) = (rt || gr)) := by show _ = _; rw [HYS.out]; exact HAS.out
    clear hgr
    cases rt with
    | true =>
      gi_wp2_with (first
      | (gi_at_builtin; refine wpListIn_append_own _ rfl _ _ 29 rfl W0.heap.size 33 i1 (.int .u16 0) 1 2 Tryz.underlying29 hj hy0 hy1 hy2 rfl (by decide) _ m (Y2.map (Value.int .u16)) rfl (by have h := HP1.out.flt.alloc (.cells #[.int .u16 f] 33); rw [HM2.out] at h; exact h) ⟨w3.heap.size, 0, none⟩ 1 1 [.int .u16 f] rfl rfl (by have h := cell_one_new (w3.setCell ⟨w.heap.size + 1, 0, none⟩ (.slice a3 (m + 1) c3)) (.int .u16 f) 33; rw [show (w3.setCell ⟨w.heap.size + 1, 0, none⟩ (.slice a3 (m + 1) c3)).heap.size = w3.heap.size by simp] at h; exact h) (by simp [Value.oneCell']) (by unfold maxLen; omega) (by omega) (by have := HS1.out.b4; simp at this ⊢; omega) ?_; intro v4 w4 r4 g4 _; obtain ⟨a4, c4, rfl⟩ := own_sh16 r4; have HPU2 := hid (pushF HS1.out HP1.out (by rw [HM2.out]; exact r4) g4); have HK2 := hid (((HK1.out.trans (KeepsOthers.alloc _ _)).trans (keeps_grown (HP1.out.flt.alloc (.cells #[.int .u16 f] 33)) (by first | exact g4 | (rw [HM2.out]; exact g4)))).trans (KeepsOthers.setCell _ ⟨w.heap.size + 1 + 1, 0, none⟩ (.slice a4 (m + 1) c4))); have hc4 := HPU2.out.1.cell; have hf4 := HPU2.out.1.frozen; have hcr := HPU2.out.2.2.br.cell; have hfr := HPU2.out.2.2.br.frozen; have HE4 := hid (HPU2.out.2.1.els.lastE HM1.out); clear r4 g4)
      | (gi_at_builtin; refine wpListIn_append_own _ rfl _ _ 28 rfl W0.heap.size 34 i0 (.slice none 0 0) 1 24 Tryz.underlying28 hi hz0 hz1 hz2 rfl (by decide) _ m vs rfl (by have h := HS2.out.out.alloc (.cells #[.slice a2 q c2] 34); rw [HM1.out] at h; exact h) ⟨w2.heap.size, 0, none⟩ 1 1 [.slice a2 q c2] rfl rfl (cell_one_new _ _ _) (by simp [Value.oneCell']) (by unfold maxLen; omega) (by omega) (by have := HS2.out.b4; simp; omega) ?_; intro v3 w3 r3 g3 _; obtain ⟨a3, c3, rfl⟩ := own_sh22 r3; have HPU := hid (HS2.out.push HE2.out (by rw [HM1.out]; exact r3) g3); have HS1 := hid HPU.out.2; have HP1 := hid (HP2.out.pushO HS2.out.out g3 HPU.out.1 (.slice a3 (m + 1) c3)); have HK1 := hid (((HK0.out.trans (KeepsOthers.alloc _ _)).trans (keeps_grown (HS2.out.out.alloc (.cells #[.slice a2 q c2] 34)) (by first | exact g3 | (rw [HM1.out]; exact g3)))).trans (KeepsOthers.setCell _ ⟨w.heap.size + 1, 0, none⟩ (.slice a3 (m + 1) c3))); have hc3 := HPU.out.1.cell; have hf3 := HPU.out.1.frozen; have hcf := HP1.out.bf.cell; clear r3 g3)
      | (refine ⟨trivial, ?_⟩; gi_at_call 34; refine (CallsIn.inRound lp (callsIn_wide.2 HONE.out)).mono ?_; rintro e w2 ⟨u, rfl, hu, B2⟩; obtain ⟨a2, c2, hue⟩ := el_shape hu; rw [HQ.out] at hue; subst hue; have HE2 := hid hu; have HS2 := hid (HS.out.below B2); have HP2 := hid (HP.out.below B2); have HK0 := hid (L.keeps_below B2); have hc2 := HS2.out.bo.cell; clear hu B2))
      refine ⟨trivial, ?_⟩
      gi_wp2
      have HR := hid (setR HPU2.out.2.1 HPU2.out.2.2 true)
      exact ⟨(HK2.out.trans (KeepsOthers.setCell _ _ _)).from _, fun _ => HR.out.1.bx, _, _, _, by rw [HYS.out, List.map_append, HY1.out]; exact HR.out.1, by rw [HAS'.out]; rw [HYS.out, List.map_append, HY2.out]; exact HR.out.2⟩
    | false =>
      gi_wp2_with (first
      | (gi_at_builtin; refine wpListIn_append_own _ rfl _ _ 29 rfl W0.heap.size 33 i1 (.int .u16 0) 1 2 Tryz.underlying29 hj hy0 hy1 hy2 rfl (by decide) _ m (Y2.map (Value.int .u16)) rfl (by have h := HP1.out.flt.alloc (.cells #[.int .u16 f] 33); rw [HM2.out] at h; exact h) ⟨w3.heap.size, 0, none⟩ 1 1 [.int .u16 f] rfl rfl (by have h := cell_one_new (w3.setCell ⟨w.heap.size + 1, 0, none⟩ (.slice a3 (m + 1) c3)) (.int .u16 f) 33; rw [show (w3.setCell ⟨w.heap.size + 1, 0, none⟩ (.slice a3 (m + 1) c3)).heap.size = w3.heap.size by simp] at h; exact h) (by simp [Value.oneCell']) (by unfold maxLen; omega) (by omega) (by have := HS1.out.b4; simp at this ⊢; omega) ?_; intro v4 w4 r4 g4 _; obtain ⟨a4, c4, rfl⟩ := own_sh16 r4; have HPU2 := hid (pushF HS1.out HP1.out (by rw [HM2.out]; exact r4) g4); have HK2 := hid (((HK1.out.trans (KeepsOthers.alloc _ _)).trans (keeps_grown (HP1.out.flt.alloc (.cells #[.int .u16 f] 33)) (by first | exact g4 | (rw [HM2.out]; exact g4)))).trans (KeepsOthers.setCell _ ⟨w.heap.size + 1 + 1, 0, none⟩ (.slice a4 (m + 1) c4))); have hc4 := HPU2.out.1.cell; have hf4 := HPU2.out.1.frozen; have hcr := HPU2.out.2.2.br.cell; have hfr := HPU2.out.2.2.br.frozen; have HE4 := hid (HPU2.out.2.1.els.lastE HM1.out); clear r4 g4)
      | (gi_at_builtin; refine wpListIn_append_own _ rfl _ _ 28 rfl W0.heap.size 34 i0 (.slice none 0 0) 1 24 Tryz.underlying28 hi hz0 hz1 hz2 rfl (by decide) _ m vs rfl (by have h := HS2.out.out.alloc (.cells #[.slice a2 q c2] 34); rw [HM1.out] at h; exact h) ⟨w2.heap.size, 0, none⟩ 1 1 [.slice a2 q c2] rfl rfl (cell_one_new _ _ _) (by simp [Value.oneCell']) (by unfold maxLen; omega) (by omega) (by have := HS2.out.b4; simp; omega) ?_; intro v3 w3 r3 g3 _; obtain ⟨a3, c3, rfl⟩ := own_sh22 r3; have HPU := hid (HS2.out.push HE2.out (by rw [HM1.out]; exact r3) g3); have HS1 := hid HPU.out.2; have HP1 := hid (HP2.out.pushO HS2.out.out g3 HPU.out.1 (.slice a3 (m + 1) c3)); have HK1 := hid (((HK0.out.trans (KeepsOthers.alloc _ _)).trans (keeps_grown (HS2.out.out.alloc (.cells #[.slice a2 q c2] 34)) (by first | exact g3 | (rw [HM1.out]; exact g3)))).trans (KeepsOthers.setCell _ ⟨w.heap.size + 1, 0, none⟩ (.slice a3 (m + 1) c3))); have hc3 := HPU.out.1.cell; have hf3 := HPU.out.1.frozen; have hcf := HP1.out.bf.cell; clear r3 g3)
      | (refine ⟨trivial, ?_⟩; gi_at_call 35; refine (CallsIn.inRound lp (callsIn_wide.2 (L.right_any _ l' _ (by have := HQ.out; omega) (HE4.out.ints)))).mono ?_; rw [HGR.out]; rintro e w7 ⟨rfl, B7⟩; have HB7 := hid B7; have hcr7 := (HPU2.out.2.2.below B7).br.cell; have hfr7 := (HPU2.out.2.2.below B7).br.frozen; clear B7)
      | (refine ⟨trivial, ?_⟩; gi_at_call 34; refine (CallsIn.inRound lp (callsIn_wide.2 HONE.out)).mono ?_; rintro e w2 ⟨u, rfl, hu, B2⟩; obtain ⟨a2, c2, hue⟩ := el_shape hu; rw [HQ.out] at hue; subst hue; have HE2 := hid hu; have HS2 := hid (HS.out.below B2); have HP2 := hid (HP.out.below B2); have HK0 := hid (L.keeps_below B2); have hc2 := HS2.out.bo.cell; clear hu B2))
      have HR := hid (setR (HPU2.out.2.1.below HB7.out) (HPU2.out.2.2.below HB7.out) gr)
      exact ⟨((HK2.out.trans (L.keeps_below HB7.out)).trans (KeepsOthers.setCell _ _ _)).from _, fun _ => HR.out.1.bx, _, _, _, by rw [HYS.out, List.map_append, HY1.out]; exact HR.out.1, by rw [HAS'.out]; rw [HYS.out, List.map_append, HY2.out]; exact HR.out.2⟩
  case done =>
    rintro D ys W hD rfl ⟨vo, vf, vs, hS, hP⟩ hK
    have HYS : Hid (ysP n X hy (cuts n X) = (spl X).map fun l => one l hy) := by
      show _ = _
      rw [← HCUT.out, List.map_map]; rfl
    have HPRC : Hid (prc X hy = if anyR (ysP n X hy (cuts n X)) = true then (ysP n X hy (cuts n X)).map bid1 else ysP n X hy (cuts n X)) := by
      show _ = _
      rw [HYS.out]; rfl
    have HYB : Hid (∀ y ∈ ysP n X hy (cuts n X), (0 ≤ y.2 ∧ y.2 ≤ 255 ∨ y.2 = 512) ∧ y.1.length ≤ 10000) := fun y hy' => by
      obtain ⟨p, hp, rfl⟩ := List.mem_map.1 hy'
      exact ⟨one_f _ hy, one_len _ hy (by have := lab_len X n p; omega)⟩
    have HYN : Hid ((ysP n X hy (cuts n X)).length ≤ 8193) := by
      show _ ≤ _
      rw [HYS.out, List.length_map]
      have := spl_length X
      rw [HN.out] at this
      omega
    obtain ⟨Ys, hYs⟩ : ∃ Ys, ysP n X hy (cuts n X) = Ys := ⟨_, rfl⟩
    rw [hYs] at hS hP HPRC HYB HYN
    have HQ := hid (Qr.of hS hP)
    obtain ⟨m, hm⟩ : ∃ m, Ys.length = m := ⟨_, rfl⟩
    rw [hm] at HQ HYN
    have HM := hid hm
    obtain ⟨ao, co, hvo⟩ := own_sh22 HQ.out.out
    subst hvo
    obtain ⟨af, cf, hvf⟩ := own_sh16 HQ.out.flt
    subst hvf
    have HBO := hid hS.bo
    have HBF := hid hP.bf
    have HBE := hid hS.be
    have hb4 := hS.b4
    have hcr := hP.br.cell
    have hco := hS.bo.cell
    have hcf := hP.bf.cell
    obtain ⟨rt, hrt⟩ : ∃ rt, anyR Ys = rt := ⟨_, rfl⟩
    rw [hrt] at HPRC hcr
    have HK := hid hK
    clear hYs hm hrt hS hP HYS hSo hPf hbx
    cases rt with
    | true =>
      have HPX : Hid (prc X hy = Ys.map bid1) := HPRC.out
      have hmz : m ≤ 100000 := by have := HYN.out; omega
      gi_wp2_with (refine ⟨trivial, ?_⟩; gi_at_call 36; refine (callsIn_wide.2 (addBidi_any W0.heap.size _ _ m vs Ys W hmz hb4 HYB.out HQ.out)).mono ?_; rintro e w7 ⟨rfl, hq7, B7, K7⟩; have HQ7 := hid hq7; have HB7 := hid B7; have HK7 := hid K7; clear hq7 B7 K7)
      have HBO7 := hid ((HB7.out.block _ (by omega)).trans HBO.out)
      have HBF7 := hid ((HB7.out.block _ (by omega)).trans HBF.out)
      have HBE7 := hid (HBE.out.trans (HB7.out.mono (by omega)))
      have hK7 := hid (HK7.out.same D _ HK.out rfl)
      have h1 : w7.cell? ⟨w.heap.size + 1, 0, none⟩ = some (.slice ao m co) := Boxed.cell HBO7.out
      have h2 : w7.cell? ⟨w.heap.size + 1 + 1, 0, none⟩ = some (.slice af m cf) := Boxed.cell HBF7.out
      have h3 : w7.frozen? ⟨w.heap.size + 1, 0, none⟩ = false := Boxed.frozen HBO7.out
      have h4 : w7.frozen? ⟨w.heap.size + 1 + 1, 0, none⟩ = false := Boxed.frozen HBF7.out
      have h5 := (boxed_set (t := 29) (t' := 28) HBF7.out HBO7.out (by decide) (.slice ao m co)).cell
      have h6 := (boxed_set (t := 29) (t' := 28) HBF7.out HBO7.out (by decide) (.slice ao m co)).frozen
      have HFW := hid (fin_world HQ7.out HBO7.out HBF7.out HBE7.out (by omega) (by omega) (by omega) (by omega) hK7.out)
      gi_region
      all_goals gi_wp2
      obtain ⟨z1, z2, z3, z4⟩ := HFW.out
      refine ⟨by simp, .inl ⟨_, _, rfl, run_takeDeferred (by exact z1), ?_⟩⟩
      have y4 := z4.below ((Below.refl _ _).drew)
      obtain ⟨V, hV⟩ : ∃ V, ((w7.setCell ⟨w.heap.size + 1, 0, none⟩ (.slice ao m co)).setCell ⟨w.heap.size + 1 + 1, 0, none⟩ (.slice af m cf)).drew.putObj D (.deferred none) = V := ⟨_, rfl⟩
      have y2 : V.cell? ⟨w.heap.size + 1, 0, none⟩ = some (.slice ao m co) := by rw [← hV]; exact z2.cell
      have y3 : V.cell? ⟨w.heap.size + 1 + 1, 0, none⟩ = some (.slice af m cf) := by rw [← hV]; exact z3.cell
      have y5 : Pr w V (.slice ao m co) (.slice af m cf) m vs (Ys.map bid1) := by rw [← hV]; exact y4
      rw [hV]
      clear hV z1 z2 z3 z4 y4
      refine ⟨.tuple #[.slice ao m co, .slice af m cf], ?_, ⟨_, _, vs, rfl, ?_⟩⟩
      · rw [results_cells (p := 4) (u := 5) (ty := 28) (tz := 29) rfl]
        have hl1 : (loadVar 28 ⟨w.heap.size + 1, 0, none⟩).run Tryz.prog V = .ok (.slice ao m co) V := by go_simp
        have hl2 : (loadVar 29 ⟨w.heap.size + 1 + 1, 0, none⟩).run Tryz.prog V = .ok (.slice af m cf) V := by go_simp
        simp [asAddr, Result.andThen, hl1, hl2]
      · rw [HPX.out, List.length_map, HM.out]; exact y5
    | false =>
      have HPX : Hid (prc X hy = Ys) := by show _ = _; rw [HPRC.out]; rfl
      gi_wp2_with fail
      have h1 : W.cell? ⟨w.heap.size + 1, 0, none⟩ = some (.slice ao m co) := Boxed.cell HBO.out
      have h2 : W.cell? ⟨w.heap.size + 1 + 1, 0, none⟩ = some (.slice af m cf) := Boxed.cell HBF.out
      have h3 : W.frozen? ⟨w.heap.size + 1, 0, none⟩ = false := Boxed.frozen HBO.out
      have h4 : W.frozen? ⟨w.heap.size + 1 + 1, 0, none⟩ = false := Boxed.frozen HBF.out
      have h5 := (boxed_set (t := 29) (t' := 28) HBF.out HBO.out (by decide) (.slice ao m co)).cell
      have h6 := (boxed_set (t := 29) (t' := 28) HBF.out HBO.out (by decide) (.slice ao m co)).frozen
      have HFW := hid (fin_world HQ.out HBO.out HBF.out HBE.out (by omega) (by omega) (by omega) (by omega) HK.out)
      gi_region
      all_goals gi_wp2
      obtain ⟨z1, z2, z3, z4⟩ := HFW.out
      refine ⟨by simp, .inl ⟨_, _, rfl, run_takeDeferred (by exact z1), ?_⟩⟩
      have y4 := z4.below ((Below.refl _ _).drew)
      obtain ⟨V, hV⟩ : ∃ V, ((W.setCell ⟨w.heap.size + 1, 0, none⟩ (.slice ao m co)).setCell ⟨w.heap.size + 1 + 1, 0, none⟩ (.slice af m cf)).drew.putObj D (.deferred none) = V := ⟨_, rfl⟩
      have y2 : V.cell? ⟨w.heap.size + 1, 0, none⟩ = some (.slice ao m co) := by rw [← hV]; exact z2.cell
      have y3 : V.cell? ⟨w.heap.size + 1 + 1, 0, none⟩ = some (.slice af m cf) := by rw [← hV]; exact z3.cell
      have y5 : Pr w V (.slice ao m co) (.slice af m cf) m vs Ys := by rw [← hV]; exact y4
      rw [hV]
      clear hV z1 z2 z3 z4 y4
      refine ⟨.tuple #[.slice ao m co, .slice af m cf], ?_, ⟨_, _, vs, rfl, ?_⟩⟩
      · rw [results_cells (p := 4) (u := 5) (ty := 28) (tz := 29) rfl]
        have hl1 : (loadVar 28 ⟨w.heap.size + 1, 0, none⟩).run Tryz.prog V = .ok (.slice ao m co) V := by go_simp
        have hl2 : (loadVar 29 ⟨w.heap.size + 1 + 1, 0, none⟩).run Tryz.prog V = .ok (.slice af m cf) V := by go_simp
        simp [asAddr, Result.andThen, hl1, hl2]
      · rw [HPX.out, HM.out]; exact y5
  case stop =>
    rintro D c pre W _ _ h _
    exact h.elim
end Go.Proofs.YtdncaehajhmcoaaGreat.I
