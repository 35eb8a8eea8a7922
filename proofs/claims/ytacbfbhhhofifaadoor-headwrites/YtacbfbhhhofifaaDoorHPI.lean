/- head: a line's end; a byte. (Stage 19.) -/
import Derived.Test.YtacbfbhhhofifaaDoorHPH
namespace Go.Proofs.YtacbfbhhhofifaaDoor.Hd
open Go.RowKit
open Go.Proofs.YtacbfbhhhofifaaDoor.F (bn bn_length bn_append bn_inj bn_get byte_bd hid bn_extract isEmpty_false isEmpty_true str_eq same_eq)
set_option linter.unusedVariables false

/-- What comes of a line at its end. -/
def atEndS (s : St) : St := if ends (s.cur ++ [10]) = false then { s with e := 191 } else fin s ((s.cur ++ [10]).take (s.cur.length + 1 - 2))
theorem lk_get (s : St) : lkA[(stN s).toNat]? = some (.func (.func (lkN s)) #[] #[]) := by
  unfold stN lkN
  cases s.is <;> cases s.blk <;> rfl
set_option maxRecDepth 100000 in
theorem lk_enter (s : St) (args : Array Value) (w : World) : (callFunc (lkN s) args).run Tryd.prog w = .ok (.enter (lkN s) args) w := by
  unfold lkN
  cases s.is <;> cases s.blk <;> first | exact enters_of Tryd.func44 (by kernel_rfl) rfl args w | exact enters_of Tryd.func43 (by kernel_rfl) rfl args w | exact enters_of Tryd.func42 (by kernel_rfl) rfl args w
set_option maxRecDepth 100000 in
theorem lk_index (s : St) (w : World) : (Instr.index 72 (.agg lkA) (.int .u8 (stN s))).run Tryd.prog w = .ok (.func (.func (lkN s)) #[] #[]) w := by
  unfold lkN stN
  cases s.is <;> cases s.blk <;> kernel_rfl
theorem stN_bd (s : St) : 0 ≤ stN s ∧ stN s < 6 := by
  unfold stN
  split
  · omega
  · split <;> omega
theorem panic_put {P : Program} {fn : Func} {R : Ending → World → Prop} : ∀ c (a : Act) d v w, bodyPost P fn R (.panic c) (a.put d v) w → bodyPost P fn R (.panic c) a w := by
  intro c a d v w h
  cases d <;> exact h
set_option maxRecDepth 100000 in
set_option maxHeartbeats 8000000 in
theorem endLine_bad (base : Nat) (W : World) (b : Nat) (s : St) (h : Liv base W b s) (he : ends (s.cur ++ [10]) = false) : Calls Tryd.prog 35 #[.pointer (some ⟨b, 0, none⟩)] W fun e W' => TkR base b { s with e := 191 } e W' ∧ Bel base W W' := by
  have HL := hid h
  obtain ⟨L, M, T, v, F, fs, hm, hr⟩ := h.ex
  obtain ⟨al, cl, rfl⟩ := hm.ln.form
  have c3 : W.cell? ⟨b, 3, none⟩ = some (.slice al s.cur.length cl) := hm.cell 3
  obtain ⟨t, ht, htb⟩ := hm.ln.text h.by'
  have hts : t.size ≤ 4097 := by rw [← bn_length, htb]; exact h.len
  have HSU := hid (fun w => suf_any t (by omega) w)
  have HE := hid he
  have HTB := hid htb
  clear hm hr h he htb
  go_enter Tryd.func35, Tryd.ntmps35
  go_upto_region 1 with (go_at_call 37; refine (HSU.out _).mono ?_; rintro e w1 ⟨⟨u, b1, rfl, h1, h2, h3⟩, rfl⟩; have H1 := hid h1; have H2 := hid h2; clear h1 h2 h3)
  cases b1 with
  | false =>
    go_wp2
    exact ⟨rfl, TkR.bad (by decide) rfl HL.out.ruin, Bel.refl _ _⟩
  | true =>
    have hu := H1.out rfl
    have hf : 0 ≤ opt (fnd (bn u) 13 0) := by
      have h5 := HE.out
      rw [← HTB.out, hu, ends_snoc, all_fnd, decide_eq_false_iff_not] at h5
      omega
    have HC := hid (fun w => con_any u w)
    rw [decide_eq_true hf] at HC
    clear hu hf H1 H2 HSU
    go_wp2_with (go_at_call 38; refine (HC.out _).mono ?_; rintro e w2 ⟨rfl, rfl⟩)
    exact ⟨rfl, TkR.bad (by decide) rfl HL.out.ruin, Bel.refl _ _⟩
set_option maxRecDepth 100000 in
set_option maxHeartbeats 8000000 in
theorem endLine_good (base : Nat) (W : World) (b : Nat) (s : St) (h : Liv base W b s) (he : ends (s.cur ++ [10]) = true) : Calls Tryd.prog 35 #[.pointer (some ⟨b, 0, none⟩)] W fun e W' => TkR base b (fin s ((s.cur ++ [10]).take (s.cur.length + 1 - 2))) e W' ∧ Bel base W W' := by
  have HL := hid h
  obtain ⟨L, M, T, v, F, fs, hm, hr⟩ := h.ex
  obtain ⟨al, cl, rfl⟩ := hm.ln.form
  have c3 : W.cell? ⟨b, 3, none⟩ = some (.slice al s.cur.length cl) := hm.cell 3
  obtain ⟨t, ht, htb⟩ := hm.ln.text h.by'
  have hts : t.size ≤ 4097 := by rw [← bn_length, htb]; exact h.len
  have hcl : 0 ≤ cl := Nat.zero_le _
  have HSU := hid (fun w => suf_any t (by omega) w)
  have HE := hid he
  have HTB := hid htb
  have HM := hid hm
  have HR := hid hr
  clear hm hr h he htb
  go_enter Tryd.func35, Tryd.ntmps35
  go_upto_region 1 with (go_at_call 37; refine (HSU.out _).mono ?_; rintro e w1 ⟨⟨u, b1, rfl, h1, h2, h3⟩, rfl⟩; have H1 := hid h1; have H2 := hid h2; clear h1 h2 h3)
  cases b1 with
  | false =>
    exfalso
    have := ends_no (l := s.cur) (by rw [← HTB.out]; exact H2.out rfl)
    rw [HE.out] at this
    cases this
  | true =>
    have hu := H1.out rfl
    have hs : s.cur = bn u ++ [13] := by rw [← HTB.out, hu]
    have hf : ¬ 0 ≤ opt (fnd (bn u) 13 0) := by
      have h5 := HE.out
      rw [hs, ends_snoc, all_fnd] at h5
      have := of_decide_eq_true h5
      omega
    have hT : (s.cur ++ [10]).take (s.cur.length + 1 - 2) = bn u := by
      rw [hs, List.append_assoc, List.length_append]
      have : (bn u).length + [(13 : Int)].length + 1 - 2 = (bn u).length := by simp
      rw [this, List.take_left' rfl]
    have HT := hid hT
    have hus : u.size ≤ 4096 := by
      have h6 := congrArg List.length hs
      rw [List.length_append, bn_length] at h6
      have h7 := HL.out.len
      simp at h6
      omega
    have HC := hid (fun w => con_any u w)
    rw [decide_eq_false hf] at HC
    clear hu hf H1 H2 HSU hs hT
    go_upto_region 4 with (first
      | (go_at_call 38; refine (HC.out _).mono ?_; rintro e w2 ⟨rfl, rfl⟩)
      | (refine wpList_store_in rfl 38 (.tmp 27) (.tmp 25) rfl b 3 (.slice al 0 cl) rfl rfl rfl 62 _ HM.out.row (show (3 : Nat) < 8 by decide) (by kernel_rfl) ?_))
    obtain ⟨m2, b2, _⟩ := HM.out.set (stN s) 0 s.n (.slice al 0 cl) M T v F [] fs HM.out.ln.cut0 HM.out.fl
    have hst : stN { s with cur := [] } = stN s := rfl
    have HL2 : Hid (Liv base (w2.setRow b (rw8 (stN s) 0 s.n (.slice al 0 cl) M T v F)) b { s with cur := [] }) := ⟨⟨_, M, T, v, F, fs, m2, HR.out⟩, HL.out.d, HL.out.e, Nat.zero_le _, HL.out.n, (fun x hx => by cases hx), HL.out.z⟩
    have HM2 := hid m2
    have HB2 := hid b2
    clear m2 b2 hst HM HR HC
    show Code.wp _ _ _ _ (World.setRow w2 b (rw8 (stN s) 0 s.n (.slice al 0 cl) M T v F))
    obtain ⟨wq, hw2⟩ : ∃ x, x = World.setRow w2 b (rw8 (stN s) 0 s.n (.slice al 0 cl) M T v F) := ⟨_, rfl⟩
    rw [← hw2] at HL2 HM2 HB2 ⊢
    clear hw2
    obtain ⟨row, hrow⟩ : ∃ r, rw8 (stN s) 0 s.n (.slice al 0 cl) M T v F = r := ⟨_, rfl⟩
    have hS := HM2.out.row
    rw [hrow] at hS
    have hr0 : row[0]? = some (.int .u8 (stN s)) := by rw [← hrow]; rfl
    obtain ⟨q0, q1⟩ := stN_bd s
    have hlk := lk_index s
    have hen := lk_enter s
    have HLN := hid (fun W (hW : Liv base W b { s with cur := [] }) => line_any base W b { s with cur := [] } u hW rfl hus)
    have hlk2 : lkN { s with cur := [] } = lkN s := rfl
    rw [hlk2] at HLN
    obtain ⟨N, hN⟩ : ∃ N, lkN s = N := ⟨_, rfl⟩
    obtain ⟨S0, hS0⟩ : ∃ S0, stN s = S0 := ⟨_, rfl⟩
    rw [hN] at hlk hen HLN
    rw [hS0] at hr0 q0 q1 hlk
    clear hlk2
    refine E.wp_region_lastP (fun _ => true) (fun c a d v w _ h => panic_put (fn := Tryd.f35) c a d v w h) (by kernel_rfl) (fun W => W.heap[b]? = some (.cells row 62 (0, 0))) [(1, true), (2, true), (3, true), (4, true), (6, true), (7, true), (0, false), (5, true)] 8 _ rfl (by kernel_rfl) (by kernel_rfl) hS ?_
    simp only [E.selS, List.filterMap_cons, List.filterMap_nil, List.getElem?_cons_succ, List.getElem?_cons_zero, Option.map_some]
    have HS := hid hS
    clear hS
    refine E.wpS_val (.pointer (some ⟨b, 0, none⟩)) (by rfl) (fun W hS => by go_simp) ?_
    simp only [Act.put, List.setIfInBounds_toArray, List.set_cons_succ, List.set_cons_zero]
    refine E.wpS_val (.pointer (some ⟨b, 0, none⟩)) (by rfl) (fun W hS => by go_simp) ?_
    simp only [Act.put, List.setIfInBounds_toArray, List.set_cons_succ, List.set_cons_zero]
    refine E.wpS_val (.pointer (some ⟨b, 0, none⟩)) (by rfl) (fun W hS => by go_simp) ?_
    simp only [Act.put, List.setIfInBounds_toArray, List.set_cons_succ, List.set_cons_zero]
    refine E.wpS_val (.int .u8 S0) (by rfl) (fun W hS => by have hcv := (cell_of_row W b 0 _ _ _ hS).trans hr0; go_simp) ?_
    simp only [Act.put, List.setIfInBounds_toArray, List.set_cons_succ, List.set_cons_zero]
    refine E.wpS_val (.pointer (some ⟨b, 0, none⟩)) (by rfl) (fun W hS => by go_simp) ?_
    simp only [Act.put, List.setIfInBounds_toArray, List.set_cons_succ, List.set_cons_zero]
    refine E.wpS_val (.string u) (by rfl) (fun W hS => by go_simp) ?_
    simp only [Act.put, List.setIfInBounds_toArray, List.set_cons_succ, List.set_cons_zero]
    show wpList _ _ _ [_] _ _
    go_wp2_with fail
    refine (lookers_any _).mono ?_
    rintro e w3 ⟨rfl, hB3⟩
    have hB3' : Below wq.heap.size wq w3 := ⟨hB3.os, hB3.tape, hB3.output, hB3.size, hB3.block⟩
    have HL3 := hid (HL2.out.below hB3')
    have HM3 := hid (HM2.out.below hB3')
    have HB3 := hid (HB2.out.trans (hB3'.bel HM2.out.base_le))
    clear hB3 hB3' HL2 HM2 HB2 HS
    go_wp2_with fail
    refine ⟨rfl, by rw [← hrow]; exact HM3.out.row, ?_⟩
    refine E.wpS_val (.func (.func N) #[] #[]) (by rfl) (fun W hS => by go_simp) ?_
    simp only [Act.put, List.setIfInBounds_toArray, List.set_cons_succ, List.set_cons_zero]
    show wpList _ _ _ [_] _ _
    go_wp2_with fail
    have HT2 : Hid ((s.cur ++ [10]).take (s.cur.length - 1) = bn u) := HT.out
    refine (HLN.out _ HL3.out).mono ?_
    rintro e w4 ⟨hT, hB4⟩
    have HB4 := hid (HB3.out.trans hB4)
    rcases (TkR.cur HL.out.d HL.out.e hT) with ⟨h1, rfl, h2⟩ | ⟨h1, h2, rfl, h3⟩ | ⟨h1, h2, rfl, h3⟩
    · have H := hid (And.intro h1 h2)
      clear h1 h2 hT hB4
      go_wp2_with fail
      refine ⟨rfl, ?_, HB4.out⟩
      rw [HT2.out]
      exact .inl ⟨H.out.1, rfl, H.out.2⟩
    · have H := hid (And.intro h1 (And.intro h2 h3))
      clear h1 h2 h3 hT hB4
      go_wp2_with fail
      refine E.onlyP_normal ?_
      go_end0
      rw [HT.out]
      exact ⟨.inr (.inl ⟨H.out.1, H.out.2.1, rfl, H.out.2.2⟩), HB4.out⟩
    · have H := hid (And.intro h1 (And.intro h2 h3))
      clear h1 h2 h3 hT hB4
      go_wp2_with fail
      refine E.onlyP_normal ?_
      go_end0
      rw [HT.out]
      exact ⟨.inr (.inr ⟨H.out.1, H.out.2.1, rfl, H.out.2.2⟩), HB4.out⟩
theorem endLine_any (base : Nat) (W : World) (b : Nat) (s : St) (h : Liv base W b s) : Calls Tryd.prog 35 #[.pointer (some ⟨b, 0, none⟩)] W fun e W' => TkR base b (atEndS s) e W' ∧ Bel base W W' := by
  unfold atEndS
  cases he : ends (s.cur ++ [10]) with
  | true => rw [if_neg (by decide)]; exact endLine_good base W b s h he
  | false => rw [if_pos rfl]; exact endLine_bad base W b s h he
end Go.Proofs.YtacbfbhhhofifaaDoor.Hd
