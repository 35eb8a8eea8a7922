/- head: the first line. (Stage 19.) -/
import Derived.Test.YtacbfbhhhofifaaDoorHPE
import Derived.Laws.StructEq
import Derived.Deep.MidRow
namespace Go.Proofs.YtacbfbhhhofifaaDoor.Hd
open Go.RowKit
open Go.Proofs.YtacbfbhhhofifaaDoor.F (bn bn_length bn_append bn_inj bn_get byte_bd hid bn_extract isEmpty_false isEmpty_true str_eq same_eq)
set_option linter.unusedVariables false

theorem long_any (W : World) (b : Nat) (s : St) (c0 : W.cell? ⟨b, 0, none⟩ = some (.int .u8 (stN s))) : Calls Tryd.prog 36 #[.pointer (some ⟨b, 0, none⟩)] W fun e W' => e = .returned (.int .i64 (if s.is = true then 195 else 194 : Nat)) ∧ W' = W := by
  cases hi : s.is with
  | true =>
    have hs : stN s = 3 := by unfold stN; rw [hi]; rfl
    rw [hs] at c0
    go_enter Tryd.func36, Tryd.ntmps36
    go_wp2
    go_ret
    exact ⟨rfl, rfl⟩
  | false =>
    cases hb : s.blk with
    | true =>
      have hs : stN s = 2 := by unfold stN; rw [hi, hb]; rfl
      rw [hs] at c0
      go_enter Tryd.func36, Tryd.ntmps36
      go_wp2
      go_ret
      exact ⟨rfl, rfl⟩
    | false =>
      have hs : stN s = 1 := by unfold stN; rw [hi, hb]; rfl
      rw [hs] at c0
      go_enter Tryd.func36, Tryd.ntmps36
      go_wp2
      go_ret
      exact ⟨rfl, rfl⟩
theorem Liv.ruin {base : Nat} {W : World} {b : Nat} {s : St} (h : Liv base W b s) : Ruin base W b s.n := by
  obtain ⟨L, M, T, v, F, fs, hm, _⟩ := h.ex
  exact ⟨_, _, _, _, _, _, _, _, _, hm⟩
theorem Ruin.below {base : Nat} {W W' : World} {b n : Nat} (h : Ruin base W b n) (hb : Below W.heap.size W W') : Ruin base W' b n := by
  obtain ⟨_, _, _, _, _, _, _, _, _, hm⟩ := h
  exact ⟨_, _, _, _, _, _, _, _, _, hm.below hb⟩
/-- What is wrong, of any state with these bytes taken. -/
theorem TkR.bad {base b : Nat} {s : St} {k : Nat} {e : Ending} {W : World} (hk : k ≠ 0) (he : e = .panicked (faultV k)) (hr : Ruin base W b s.n) : TkR base b { s with e := k } e W := .inl ⟨hk, he, hr⟩
theorem cut32 (s : ByteArray) (hs : s.size ≤ 1000000) (w : World) : Calls Tryd.prog 47 #[.string s, .string ⟨#[32]⟩] w fun e W' => CutR s 32 e ∧ Below w.heap.size w W' := cut_any s 32 hs w
theorem cut58 (s : ByteArray) (hs : s.size ≤ 1000000) (w : World) : Calls Tryd.prog 47 #[.string s, .string ⟨#[58]⟩] w fun e W' => CutR s 58 e ∧ Below w.heap.size w W' := cut_any s 58 hs w
theorem sz_take {A : ByteArray} {l : List Int} {p : Int → Bool} {n : Nat} (h : bn A = l.takeWhile p) (hl : l.length ≤ n) : A.size ≤ n := by
  rw [← bn_length, h]; exact Nat.le_trans (List.takeWhile_sublist p).length_le hl
theorem sz_drop {A : ByteArray} {l : List Int} {p : Int → Bool} {n : Nat} (h : bn A = (l.dropWhile p).drop 1) (hl : l.length ≤ n) : A.size ≤ n := by
  rw [← bn_length, h, List.length_drop]; exact Nat.le_trans (Nat.sub_le _ _) (Nat.le_trans (List.dropWhile_sublist p).length_le hl)
/-! ### A part of the reader's cells -/
theorem setCells_heap (g : Nat) (t : TypeId) (fz : Nat × Nat) : ∀ (vs : List Value) (o : Nat) (w : World) (cur : Array Value), w.heap[g]? = some (.cells cur t fz) → o + vs.length ≤ cur.size → (w.setCells g o vs).heap[g]? = some (.cells (cur.toList.take o ++ vs ++ cur.toList.drop (o + vs.length)).toArray t fz)
  | [], o, w, cur, h, _ => by
    show w.heap[g]? = _
    rw [h]; simp
  | v :: r, o, w, cur, h, hl => by
    have hl' : o + 1 + r.length ≤ cur.size := by simp at hl; omega
    rw [World.setCells, setCell_eq_setRow w g o cur t fz v h]
    rw [setCells_heap g t fz r (o + 1) _ (cur.setIfInBounds o v) (setRow_heap w g cur _ t _ h) (by simpa using hl')]
    have e := list_seg_step cur.toList o v r (by simp at hl ⊢; omega)
    congr 2
    apply Array.toList_inj.1
    simpa [Array.toList_setIfInBounds, Nat.add_assoc] using e
theorem setCells_rest (g : Nat) : ∀ (vs : List Value) (o : Nat) (w : World), (w.setCells g o vs).os = w.os ∧ (w.setCells g o vs).tape = w.tape ∧ (w.setCells g o vs).output = w.output ∧ (w.setCells g o vs).heap.size = w.heap.size ∧ ∀ k, k ≠ g → (w.setCells g o vs).heap[k]? = w.heap[k]?
  | [], o, w => ⟨rfl, rfl, rfl, rfl, fun _ _ => rfl⟩
  | v :: r, o, w => by
    obtain ⟨h1, h2, h3, h4, h5⟩ := setCells_rest g r (o + 1) (w.setCell ⟨g, o, none⟩ v)
    have hb := (Below.refl 0 w).setCell (p := ⟨g, o, none⟩) (Nat.zero_le _) v
    refine ⟨h1.trans hb.os, h2.trans hb.tape, h3.trans hb.output, h4.trans (by simp), fun k hk => (h5 k hk).trans (Below.heap_setCell w ⟨g, o, none⟩ v k hk)⟩
theorem Mem.head {base : Nat} {W : World} {b : Nat} {st wr n : Int} {L : Value} {M T : ByteArray} {v : Int} {F : Value} {l : List Int} {fs : List Fb} (h : Mem base W b st wr n L M T v F l fs) (M' T' : ByteArray) (v' : Int) :
    Mem base (W.setCells b 4 [.string M', .string T', .int .u8 v', .slice none 0 0]) b st wr n L M' T' v' (.slice none 0 0) l [] ∧ Bel base W (W.setCells b 4 [.string M', .string T', .int .u8 v', .slice none 0 0]) := by
  have h1 := setCells_heap b 62 (0, 0) [.string M', .string T', .int .u8 v', .slice none 0 0] 4 W _ h.row (Nat.le_refl 8)
  obtain ⟨r1, r2, r3, r4, r5⟩ := setCells_rest b [.string M', .string T', .int .u8 v', .slice none 0 0] 4 W
  refine ⟨⟨h.hb, h1, h.ln.keep fun g cur _ hg => r5 g ?_, FldOwn.nil _ _⟩, ⟨⟨r1, r2, r3, Nat.le_of_eq r4.symm, fun k hk => r5 k (fun e => by have := h.hb; omega)⟩, fun g cu t fr hg h1 _ _ => r5 g (bel_type h.row hg h1)⟩⟩
  rintro rfl; have := h.row; rw [hg] at this; injection this with this; injection this with _ this; exact absurd this (by decide)
theorem Mem.there {base : Nat} {W : World} {b : Nat} {st wr n : Int} {L : Value} {M T : ByteArray} {v : Int} {F : Value} {l : List Int} {fs : List Fb} (h : Mem base W b st wr n L M T v F l fs) : W.there b 4 4 := by
  intro j hj
  refine ⟨?_, by simp [World.frozen?, h.row]⟩
  rw [h.cell (4 + j)]
  rcases (by omega : j = 0 ∨ j = 1 ∨ j = 2 ∨ j = 3) with rfl | rfl | rfl | rfl <;> rfl
theorem ver_bd {v : List Int} (h : (ver v).2 = 0) : 0 ≤ (ver v).1 ∧ (ver v).1 ≤ 255 := by
  unfold ver at h ⊢
  split at h
  · rename_i h1
    rw [if_pos h1]
    split at h
    · rename_i h2
      rw [if_pos h2]
      have h3 := h1.2.2.2.2
      unfold dig at h3
      have h4 := of_decide_eq_true h3
      simp only
      omega
    · cases h
  · cases h
set_option maxRecDepth 100000 in
set_option maxHeartbeats 8000000 in
/-- The first line: what is wrong in it. -/
theorem first_bad (base : Nat) (W : World) (b : Nat) (s : St) (t : ByteArray) (h : Liv base W b s) (ht : t.size ≤ 100000) (hf : (frst (bn t)).2 ≠ 0) :
    Calls Tryd.prog 43 #[.pointer (some ⟨b, 0, none⟩), .string t] W fun e W' => TkR base b { s with e := (frst (bn t)).2 } e W' ∧ Bel base W W' := by
  have HL := hid h
  have hbs : base ≤ W.heap.size := by obtain ⟨L, M, T, v, F, fs, hm, _⟩ := h.ex; exact hm.base_le
  have HF := hid hf
  have HQ := hid (frst_eq (bn t))
  have HC1 := hid (fun w => cut32 t (by omega) w)
  have HC2 := hid (fun (u : ByteArray) (hu : u.size ≤ 1000000) w => cut32 u hu w)
  have HTK := hid (fun (u : ByteArray) (hu : u.size ≤ 1000000) w => token_any u hu w)
  have HIS := hid (fun (u : ByteArray) (hu : u.size ≤ 1000000) w => isOf_seen u hu w)
  have HMI := hid (fun (u : ByteArray) (hu : u.size ≤ 1000000) w => minor_any u hu w)
  clear h hf
  go_enter Tryd.func43, Tryd.ntmps43
  go_upto_region 1 with (go_at_call 47; refine (HC1.out _).mono ?_; rintro e w1 ⟨⟨A, R, b1, hA, hR, _, rfl⟩, hB1⟩; have HA := hid hA; have HR := hid hR; have HB1 := hid hB1; clear hA hR hB1)
  have hRs : R.size ≤ 1000000 := sz_drop HR.out (by rw [bn_length]; omega)
  have hAs : A.size ≤ 1000000 := sz_take HA.out (by rw [bn_length]; omega)
  go_upto_region 2 with (go_at_call 47; refine (HC2.out R hRs _).mono ?_; rintro e w2 ⟨⟨B, V, b2, hB, hV, _, rfl⟩, hB2⟩; have HB := hid hB; have HV := hid hV; have HB2 := hid hB2; clear hB hV hB2)
  have hBs : B.size ≤ 1000000 := sz_take HB.out (by rw [bn_length]; omega)
  have hVs : V.size ≤ 1000000 := sz_drop HV.out (by rw [bn_length]; omega)
  have HQ2 : Hid (frst (bn t) = if tok (bn A) = false ∨ bn B = [] ∨ (bn B).all vis = false then (h0, 190) else if (ver (bn V)).2 = 0 then (⟨bn A, bn B, (ver (bn V)).1, []⟩, 0) else (h0, (ver (bn V)).2)) := by
    show _ = _
    rw [HQ.out, HA.out, HV.out, HB.out, HR.out]
  have HL2 := hid ((HL.out.below HB1.out).below HB2.out)
  have HBB := hid ((HB1.out.bel hbs).trans (HB2.out.bel (Nat.le_trans hbs HB1.out.size)))
  have hbs2 : base ≤ w2.heap.size := Nat.le_trans hbs (Nat.le_trans HB1.out.size HB2.out.size)
  clear HQ HC1 HC2 HL HB1 HB2 HA HR HB HV hRs
  have HT1 := hid (HTK.out A hAs)
  have HS1 := hid (HIS.out B hBs)
  have HM1 := hid (HMI.out V hVs)
  clear HTK HIS HMI
  cases hk : tok (bn A) with
  | false =>
    have HE : Hid ((frst (bn t)).2 = 190) := by show _ = _; rw [HQ2.out, if_pos (.inl hk)]
    rw [hk] at HT1
    clear HQ2 HS1 HM1 hk
    go_wp2_with (go_at_call 12; refine (HT1.out _).mono ?_; rintro e w3 ⟨rfl, hB3⟩; have HB3 := hid hB3; clear hB3)
    exact ⟨rfl, TkR.bad HF.out (by rw [HE.out] <;> rfl) (HL2.out.ruin.below HB3.out), HBB.out.trans (HB3.out.bel hbs2)⟩
  | true =>
    rw [hk] at HT1
    by_cases hz : B.size = 0
    · have hzE := isEmpty_true B hz
      have HE : Hid ((frst (bn t)).2 = 190) := by show _ = _; rw [HQ2.out, if_pos (.inr (.inl (List.length_eq_zero_iff.1 (by rw [bn_length]; exact hz))))]
      clear HQ2 HS1 HM1 hk
      go_wp2_with (go_at_call 12; refine (HT1.out _).mono ?_; rintro e w3 ⟨rfl, hB3⟩; have HB3 := hid hB3; clear hB3)
      exact ⟨rfl, TkR.bad HF.out (by rw [HE.out] <;> rfl) (HL2.out.ruin.below HB3.out), HBB.out.trans (HB3.out.bel hbs2)⟩
    · have hzE := isEmpty_false B (by omega)
      cases hv : (bn B).all vis with
      | false =>
        have HE : Hid ((frst (bn t)).2 = 190) := by show _ = _; rw [HQ2.out, if_pos (.inr (.inr hv))]
        rw [hv] at HS1
        clear HQ2 HM1 hk hv
        go_wp2_with (first
          | (go_at_call 12; refine (HT1.out _).mono ?_; rintro e w3 ⟨rfl, hB3⟩; have HB3 := hid hB3; clear hB3)
          | (go_at_call 24; refine (HS1.out _).mono ?_; rintro e w4 ⟨rfl, rfl⟩))
        exact ⟨rfl, TkR.bad HF.out (by rw [HE.out] <;> rfl) (HL2.out.ruin.below HB3.out), HBB.out.trans (HB3.out.bel hbs2)⟩
      | true =>
        have HE : Hid ((frst (bn t)).2 = (ver (bn V)).2) := by
          show _ = _
          rw [HQ2.out, if_neg (by rintro (h | h | h); · rw [hk] at h; cases h
                                  · exact hz (by rw [← bn_length, h]; rfl)
                                  · rw [hv] at h; cases h)]
          split
          · rename_i hz2; exact hz2.symm
          · rfl
        rw [hv] at HS1
        have HN : Hid ((ver (bn V)).2 ≠ 0) := fun e => HF.out (HE.out.trans e)
        clear HQ2 hk hv
        go_wp2_with (first
          | (go_at_call 12; refine (HT1.out _).mono ?_; rintro e w3 ⟨rfl, hB3⟩; have HB3 := hid hB3; clear hB3)
          | (go_at_call 24; refine (HS1.out _).mono ?_; rintro e w4 ⟨rfl, rfl⟩)
          | (go_at_call 49; refine (HM1.out _).mono ?_; rintro e w5 ⟨hM, rfl⟩; unfold MinR at hM; rw [if_neg HN.out] at hM; subst hM))
        exact ⟨rfl, TkR.bad HF.out (by rw [HE.out] <;> rfl) (HL2.out.ruin.below HB3.out), HBB.out.trans (HB3.out.bel hbs2)⟩
set_option maxRecDepth 100000 in
set_option maxHeartbeats 8000000 in
/-- The first line: what it says. -/
theorem first_good (base : Nat) (W : World) (b : Nat) (s : St) (t : ByteArray) (h : Liv base W b s) (hc : s.cur = []) (ht : t.size ≤ 100000) (hf : (frst (bn t)).2 = 0) :
    Calls Tryd.prog 43 #[.pointer (some ⟨b, 0, none⟩), .string t] W fun e W' => TkR base b { s with cur := [], is := true, h := (frst (bn t)).1 } e W' ∧ Bel base W W' := by
  have HL := hid h
  have hbs : base ≤ W.heap.size := by obtain ⟨L, M, T, v, F, fs, hm, _⟩ := h.ex; exact hm.base_le
  have HF := hid hf
  have HQ := hid (frst_eq (bn t))
  have HC1 := hid (fun w => cut32 t (by omega) w)
  have HC2 := hid (fun (u : ByteArray) (hu : u.size ≤ 1000000) w => cut32 u hu w)
  have HTK := hid (fun (u : ByteArray) (hu : u.size ≤ 1000000) w => token_any u hu w)
  have HIS := hid (fun (u : ByteArray) (hu : u.size ≤ 1000000) w => isOf_seen u hu w)
  have HMI := hid (fun (u : ByteArray) (hu : u.size ≤ 1000000) w => minor_any u hu w)
  clear h hf
  go_enter Tryd.func43, Tryd.ntmps43
  go_upto_region 1 with (go_at_call 47; refine (HC1.out _).mono ?_; rintro e w1 ⟨⟨A, R, b1, hA, hR, _, rfl⟩, hB1⟩; have HA := hid hA; have HR := hid hR; have HB1 := hid hB1; clear hA hR hB1)
  have hRs : R.size ≤ 1000000 := sz_drop HR.out (by rw [bn_length]; omega)
  have hAs : A.size ≤ 1000000 := sz_take HA.out (by rw [bn_length]; omega)
  go_upto_region 2 with (go_at_call 47; refine (HC2.out R hRs _).mono ?_; rintro e w2 ⟨⟨B, V, b2, hB, hV, _, rfl⟩, hB2⟩; have HB := hid hB; have HV := hid hV; have HB2 := hid hB2; clear hB hV hB2)
  have hBs : B.size ≤ 1000000 := sz_take HB.out (by rw [bn_length]; omega)
  have hVs : V.size ≤ 1000000 := sz_drop HV.out (by rw [bn_length]; omega)
  have HQ2 : Hid (frst (bn t) = if tok (bn A) = false ∨ bn B = [] ∨ (bn B).all vis = false then (h0, 190) else if (ver (bn V)).2 = 0 then (⟨bn A, bn B, (ver (bn V)).1, []⟩, 0) else (h0, (ver (bn V)).2)) := by
    show _ = _
    rw [HQ.out, HA.out, HV.out, HB.out, HR.out]
  have HL2 := hid ((HL.out.below HB1.out).below HB2.out)
  have HBB := hid ((HB1.out.bel hbs).trans (HB2.out.bel (Nat.le_trans hbs HB1.out.size)))
  have hbs2 : base ≤ w2.heap.size := Nat.le_trans hbs (Nat.le_trans HB1.out.size HB2.out.size)
  clear HQ HC1 HC2 HL HB1 HB2 HA HR HB HV hRs
  have HT1 := hid (HTK.out A hAs)
  have HS1 := hid (HIS.out B hBs)
  have HM1 := hid (HMI.out V hVs)
  clear HTK HIS HMI
  have hk : tok (bn A) = true := by
    cases hk : tok (bn A) with
    | true => rfl
    | false => have := HF.out; rw [HQ2.out, if_pos (.inl hk)] at this; cases this
  have hv : (bn B).all vis = true := by
    cases hv : (bn B).all vis with
    | true => rfl
    | false => have := HF.out; rw [HQ2.out, if_pos (.inr (.inr hv))] at this; cases this
  have hz : ¬ B.size = 0 := fun hz => by
    have := HF.out; rw [HQ2.out, if_pos (.inr (.inl (List.length_eq_zero_iff.1 (by rw [bn_length]; exact hz))))] at this; cases this
  have hq : frst (bn t) = if (ver (bn V)).2 = 0 then (⟨bn A, bn B, (ver (bn V)).1, []⟩, 0) else (h0, (ver (bn V)).2) := by
    rw [HQ2.out, if_neg (by rintro (h | h | h); · rw [hk] at h; cases h
                            · exact hz (by rw [← bn_length, h]; rfl)
                            · rw [hv] at h; cases h)]
  have hn : (ver (bn V)).2 = 0 := by
    have := HF.out; rw [hq] at this
    by_cases h0 : (ver (bn V)).2 = 0
    · exact h0
    · rw [if_neg h0] at this; exact this
  have HE : Hid ((frst (bn t)).1 = ⟨bn A, bn B, (ver (bn V)).1, []⟩) := by show _ = _; rw [hq, if_pos hn]
  have HVB : Hid (0 ≤ (ver (bn V)).1 ∧ (ver (bn V)).1 ≤ 255) := ver_bd hn
  have HN := hid hn
  obtain ⟨vv, hvv⟩ : ∃ v, (ver (bn V)).1 = v := ⟨_, rfl⟩
  rw [hvv] at HE HVB
  have HVV := hid hvv
  have hzE := isEmpty_false B (by omega)
  rw [hk] at HT1
  rw [hv] at HS1
  clear HQ2 hk hv hq hn hvv
  obtain ⟨L, M, T, v, F, fs, hm, _⟩ := HL2.out.ex
  have HMM := hid hm
  clear hm
  go_wp2_with (first
    | (go_at_call 12; refine (HT1.out _).mono ?_; rintro e w3 ⟨rfl, hB3⟩; have HB3 := hid hB3; clear hB3)
    | (go_at_call 24; refine (HS1.out _).mono ?_; rintro e w4 ⟨rfl, rfl⟩)
    | (go_at_call 49; refine (HM1.out _).mono ?_; rintro e w5 ⟨hM, rfl⟩; unfold MinR at hM; rw [if_pos HN.out, HVV.out] at hM; subst hM; have HM5 := hid (HMM.out.below HB3.out))
    | (refine wpList_store_mid rfl 27 (.tmp 42) (.tmp 40) rfl b 4 #[.string A, .string B, .int .u8 vv, .slice none 0 0] rfl rfl HM5.out.there (by kernel_rfl) (by simp [Value.oneCell']) ?_; obtain ⟨h61, h62⟩ := HM5.out.head A B vv; obtain ⟨w6, hw6⟩ : ∃ x, x = World.setCells w5 b 4 [.string A, .string B, .int .u8 vv, .slice none 0 0] := ⟨_, rfl⟩; rw [← hw6] at h61 h62; have HM6 := hid h61; have HB6 := hid h62; clear h61 h62; simp only []; rw [← hw6]; clear hw6)
    | (refine wpList_store_in rfl 60 (.tmp 45) (.const (.int .u8 3)) rfl b 0 (.int .u8 3) rfl rfl rfl 62 _ HM6.out.row (show (0 : Nat) < 8 by decide) (by kernel_rfl) ?_))
  obtain ⟨m7, b7, _⟩ := HM6.out.set 3 0 s.n L A B vv (.slice none 0 0) s.cur [] HM6.out.ln HM6.out.fl
  go_end0
  refine ⟨.inr (.inl ⟨HL2.out.e, HL2.out.d, rfl, ⟨⟨L, A, B, vv, .slice none 0 0, [], ?_, HE.out, HVB.out.1, HVB.out.2, Nat.zero_le _⟩, HL2.out.d, HL2.out.e, Nat.zero_le _, HL2.out.n, (fun x hx => by cases hx), (fun h => by cases h)⟩⟩), ((HBB.out.trans (HB3.out.bel hbs2)).trans HB6.out).trans b7⟩
  rw [hc] at m7
  exact m7
end Go.Proofs.YtacbfbhhhofifaaDoor.Hd
