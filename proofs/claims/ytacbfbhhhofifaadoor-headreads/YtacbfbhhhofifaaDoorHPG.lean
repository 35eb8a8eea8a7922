/- head: a field's line. (Stage 19.) -/
import Derived.Test.YtacbfbhhhofifaaDoorHPF
import Derived.Test.YtacbfbhhhofifaaDoorGT
namespace Go.Proofs.YtacbfbhhhofifaaDoor.Hd
open Go.RowKit
open Go.Proofs.YtacbfbhhhofifaaDoor.F (bn bn_length bn_append bn_inj bn_get byte_bd hid bn_extract isEmpty_false isEmpty_true str_eq same_eq)
set_option linter.unusedVariables false

theorem mem_set {base : Nat} {W : World} {b : Nat} {cs : Array Value} (hb : base ≤ b) (row : W.heap[b]? = some (.cells cs 62 (0, 0))) (st wr n : Int) (L : Value) (M T : ByteArray) (v : Int) (F : Value) (l : List Int) (fs : List Fb) (hl : LnOwn W base L l) (hf : FldOwn W base F fs) :
    Mem base (W.setRow b (rw8 st wr n L M T v F)) b st wr n L M T v F l fs ∧ Bel base W (W.setRow b (rw8 st wr n L M T v F)) ∧ (W.setRow b (rw8 st wr n L M T v F)).heap.size = W.heap.size := by
  refine ⟨⟨hb, setRow_heap _ _ _ _ _ _ row, hl.keep fun g cur _ hg => setRow_other _ _ _ _ ?_, hf.keepT fun g cur _ hg => setRow_other _ _ _ _ ?_⟩, ⟨below_setRow (Below.refl _ _) hb _, fun g cu t fr hg h1 _ _ => setRow_other _ _ _ _ (bel_type row hg h1)⟩, by simp [World.setRow]⟩
  · rintro rfl; rw [hg] at row; injection row with this; injection this with _ this; exact absurd this (by decide)
  · rintro rfl; rw [hg] at row; injection row with this; injection this with _ this; exact absurd this (by decide)
set_option maxRecDepth 100000 in
set_option maxHeartbeats 8000000 in
/-- The empty line at the end. -/
theorem field_end (base : Nat) (W : World) (b : Nat) (s : St) (h : Liv base W b s) : Calls Tryd.prog 44 #[.pointer (some ⟨b, 0, none⟩), .string ⟨#[]⟩] W fun e W' => TkR base b { s with d := true } e W' ∧ Bel base W W' := by
  have HL := hid h
  obtain ⟨L, M, T, v, F, fs, hm, hr⟩ := h.ex
  have HM := hid hm
  have HR := hid hr
  clear hm hr h
  go_enter Tryd.func44, Tryd.ntmps44
  go_wp2_with (first
    | (refine wpList_store_in rfl 60 (.tmp 12) (.const (.int .u8 4)) rfl b 0 (.int .u8 4) rfl rfl rfl 62 _ HM.out.row (show (0 : Nat) < 8 by decide) (by kernel_rfl) ?_; obtain ⟨m1, b1, z1⟩ := HM.out.set 4 0 s.n L M T v F s.cur fs HM.out.ln HM.out.fl; obtain ⟨w1, hw1⟩ : ∃ x, x = W.setRow b (rw8 4 0 s.n L M T v F) := ⟨_, rfl⟩; rw [← hw1] at m1 b1 z1; have HM1 := hid m1; have HB1 := hid b1; clear m1 b1 z1; show wpList _ _ _ _ _ (W.setRow b (rw8 4 0 s.n L M T v F)); rw [← hw1]; clear hw1)
    | (refine wpList_store_in rfl 38 (.tmp 14) (.const (.slice none 0 0)) rfl b 3 (.slice none 0 0) rfl rfl rfl 62 _ HM1.out.row (show (3 : Nat) < 8 by decide) (by kernel_rfl) ?_))
  obtain ⟨m2, b2, _⟩ := HM1.out.set 4 0 s.n (.slice none 0 0) M T v F [] fs (LnOwn.nil _ _) HM1.out.fl
  refine bodyPost_ret (v := .tuple #[]) (by simp [results, Tryd.results44]) rfl ?_
  exact ⟨.inr (.inr ⟨HL.out.e, rfl, rfl, ⟨.slice none 0 0, M, T, v, F, fs, [], m2, HR.out⟩⟩), HB1.out.trans b2⟩
set_option maxRecDepth 100000 in
set_option maxHeartbeats 8000000 in
/-- A field too many. -/
theorem field_many (base : Nat) (W : World) (b : Nat) (s : St) (t : ByteArray) (h : Liv base W b s) (ht : t.size ≠ 0) (hf : 64 ≤ s.h.f.length) : Calls Tryd.prog 44 #[.pointer (some ⟨b, 0, none⟩), .string t] W fun e W' => TkR base b { s with e := 195 } e W' ∧ Bel base W W' := by
  have hE := isEmpty_false t (by omega)
  have HL := hid h
  obtain ⟨L, M, T, v, F, fs, hm, hr⟩ := h.ex
  have hfs : fs.length = 64 := by have h1 := congrArg (fun q => q.f.length) hr.1; simp only [List.length_map] at h1; have h2 := hr.2.2.2; omega
  obtain ⟨ao, cap, rfl⟩ := hm.fl.form
  have c7 : W.cell? ⟨b, 7, none⟩ = some (.slice ao fs.length cap) := hm.cell 7
  rw [hfs] at c7
  clear hm hr h hfs
  go_enter Tryd.func44, Tryd.ntmps44
  go_wp2
  exact ⟨rfl, TkR.bad (by decide) rfl HL.out.ruin, Bel.refl _ _⟩
set_option maxRecDepth 100000 in
set_option maxHeartbeats 8000000 in
/-- No field. -/
theorem field_bad (base : Nat) (W : World) (b : Nat) (s : St) (t : ByteArray) (h : Liv base W b s) (ht : t.size ≠ 0) (hts : t.size ≤ 100000) (hf : ¬ 64 ≤ s.h.f.length) (hn : fld (bn t) = none) : Calls Tryd.prog 44 #[.pointer (some ⟨b, 0, none⟩), .string t] W fun e W' => TkR base b { s with e := 193 } e W' ∧ Bel base W W' := by
  have hE := isEmpty_false t (by omega)
  have HL := hid h
  obtain ⟨L, M, T, v, F, fs, hm, hr⟩ := h.ex
  have hbs := hm.base_le
  have hfs : ((fs.length : Int) == 64) = false := by have h1 := congrArg (fun q => q.f.length) hr.1; simp only [List.length_map] at h1; simp; omega
  obtain ⟨ao, cap, rfl⟩ := hm.fl.form
  have c7 : W.cell? ⟨b, 7, none⟩ = some (.slice ao fs.length cap) := hm.cell 7
  clear hm hr h hf
  have HN := hid hn
  have HC := hid (fun w => cut58 t (by omega) w)
  have HTK := hid (fun (u : ByteArray) (hu : u.size ≤ 1000000) w => token_any u hu w)
  have HIS := hid (fun (u : ByteArray) (hu : u.size ≤ 1000000) w => isOf_value u hu w)
  clear hn
  go_enter Tryd.func44, Tryd.ntmps44
  go_upto_region 5 with (go_at_call 47; refine (HC.out _).mono ?_; rintro e w1 ⟨⟨A, V, b1, hA, hV, hb1, rfl⟩, hB1⟩; have HA := hid hA; have HV := hid hV; have HB1 := hid hB1; have HBB := hid hb1; clear hA hV hB1 hb1)
  have hAs : A.size ≤ 1000000 := sz_take HA.out (by rw [bn_length]; omega)
  have hVs : V.size ≤ 1000000 := sz_drop HV.out (by rw [bn_length]; omega)
  have HQ : Hid (b1 = false ∨ tok (bn A) = false ∨ (bn V).all vc = false) := by
    show _ ∨ _
    have := HN.out
    unfold fld at this
    simp only at this
    rw [← HA.out, ← HV.out] at this
    by_cases hq : (bn t).dropWhile (nb 58) = [] ∨ tok (bn A) = false ∨ (bn V).all vc = false
    · rcases hq with hq | hq
      · left
        cases hb : b1 with
        | false => rfl
        | true => exact absurd hq (HBB.out.1 hb)
      · exact .inr hq
    · rw [if_neg hq] at this; cases this
  have HT1 := hid (HTK.out A hAs)
  have HS1 := hid (HIS.out V hVs)
  have HB := hid (HB1.out.bel hbs)
  have HL2 := hid (HL.out.below HB1.out)
  have hbs1 : base ≤ w1.heap.size := Nat.le_trans hbs HB1.out.size
  clear HTK HIS HN HA HV HBB HC HL
  cases b1 with
  | false =>
    clear HQ HT1 HS1
    go_wp2
    exact ⟨rfl, TkR.bad (by decide) rfl HL2.out.ruin, HB.out⟩
  | true =>
    cases hk : tok (bn A) with
    | false =>
      rw [hk] at HT1
      clear HQ HS1 hk
      go_wp2_with (go_at_call 12; refine (HT1.out _).mono ?_; rintro e w3 ⟨rfl, hB3⟩; have HB3 := hid hB3; clear hB3)
      exact ⟨rfl, TkR.bad (by decide) rfl (HL2.out.ruin.below HB3.out), HB.out.trans (HB3.out.bel hbs1)⟩
    | true =>
      have hv : (bn V).all vc = false := by
        rcases HQ.out with h | h | h
        · cases h
        · rw [hk] at h; cases h
        · exact h
      rw [hk] at HT1
      rw [hv] at HS1
      clear HQ hk hv
      go_wp2_with (first
        | (go_at_call 12; refine (HT1.out _).mono ?_; rintro e w3 ⟨rfl, hB3⟩; have HB3 := hid hB3; clear hB3)
        | (go_at_call 24; refine (HS1.out _).mono ?_; rintro e w4 ⟨rfl, rfl⟩))
      exact ⟨rfl, TkR.bad (by decide) rfl (HL2.out.ruin.below HB3.out), HB.out.trans (HB3.out.bel hbs1)⟩
set_option maxRecDepth 100000 in
set_option maxHeartbeats 8000000 in
/-- A field. -/
theorem field_good (base : Nat) (W : World) (b : Nat) (s : St) (t : ByteArray) (h : Liv base W b s) (hi : s.is = true) (hc : s.cur = []) (ht : t.size ≠ 0) (hts : t.size ≤ 100000) (hf : ¬ 64 ≤ s.h.f.length) (x : List Int × List Int) (hn : fld (bn t) = some x) : Calls Tryd.prog 44 #[.pointer (some ⟨b, 0, none⟩), .string t] W fun e W' => TkR base b { s with cur := [], h := { s.h with f := s.h.f ++ [x] } } e W' ∧ Bel base W W' := by
  have hE := isEmpty_false t (by omega)
  have HL := hid h
  obtain ⟨L, M, T, v, F, fs, hm, hr⟩ := h.ex
  have hbs := hm.base_le
  have hst : stN s = 3 := by unfold stN; rw [hi]; rfl
  rw [hst] at hm
  have hfl : fs.length < 64 := by have h1 := congrArg (fun q => q.f.length) hr.1; simp only [List.length_map] at h1; omega
  have hfs : ((fs.length : Int) == 64) = false := by simp; omega
  obtain ⟨ao, cap, rfl⟩ := hm.fl.form
  have c7 : W.cell? ⟨b, 7, none⟩ = some (.slice ao fs.length cap) := hm.cell 7
  have HM := hid hm
  have HRR := hid hr
  clear hm hr h hf
  have HN := hid hn
  have HC := hid (fun w => cut58 t (by omega) w)
  have HTK := hid (fun (u : ByteArray) (hu : u.size ≤ 1000000) w => token_any u hu w)
  have HIS := hid (fun (u : ByteArray) (hu : u.size ≤ 1000000) w => isOf_value u hu w)
  clear hn
  go_enter Tryd.func44, Tryd.ntmps44
  go_upto_region 5 with (go_at_call 47; refine (HC.out _).mono ?_; rintro e w1 ⟨⟨A, V, b1, hA, hV, hb1, rfl⟩, hB1⟩; have HA := hid hA; have HV := hid hV; have HB1 := hid hB1; have HBB := hid hb1; clear hA hV hB1 hb1)
  have hAs : A.size ≤ 1000000 := sz_take HA.out (by rw [bn_length]; omega)
  have hVs : V.size ≤ 1000000 := sz_drop HV.out (by rw [bn_length]; omega)
  have hQ : b1 = true ∧ tok (bn A) = true ∧ (bn V).all vc = true ∧ x = (sml (bn A), trm (bn V)) := by
    have := HN.out
    unfold fld at this
    simp only at this
    rw [← HA.out, ← HV.out] at this
    by_cases hq : (bn t).dropWhile (nb 58) = [] ∨ tok (bn A) = false ∨ (bn V).all vc = false
    · rw [if_pos hq] at this; cases this
    · rw [if_neg hq] at this
      refine ⟨HBB.out.2 (fun e => hq (.inl e)), ?_, ?_, (Option.some.inj this).symm⟩
      · cases hk : tok (bn A) with
        | true => rfl
        | false => exact absurd (.inr (.inl hk)) hq
      · cases hk : (bn V).all vc with
        | true => rfl
        | false => exact absurd (.inr (.inr hk)) hq
  obtain ⟨rfl, hk, hv, hx⟩ := hQ
  have HT1 := hid (HTK.out A hAs)
  have HS1 := hid (HIS.out V hVs)
  rw [hk] at HT1
  rw [hv] at HS1
  have HX := hid hx
  have HLO := hid (fun w => lower_any A hAs (tok_ascii hk) w)
  have HTR := hid (fun w => trim_any V hVs w)
  have HB := hid (HB1.out.bel hbs)
  have HM2 := hid (HM.out.below HB1.out)
  have hbs1 : base ≤ w1.heap.size := Nat.le_trans hbs HB1.out.size
  clear HTK HIS HN HA HV HBB HC hk hv hx c7 HB1 HM
  go_upto_region 7 with (first
    | (go_at_call 12; refine (HT1.out _).mono ?_; rintro e w3 ⟨rfl, hB3⟩; have HB3 := hid hB3; clear hB3)
    | (go_at_call 24; refine (HS1.out _).mono ?_; rintro e w4 ⟨rfl, rfl⟩))
  have HM4 := hid (HM2.out.below HB3.out)
  have HB4 := hid (HB.out.trans (HB3.out.bel hbs1))
  clear HM2 HB HB3 HT1 HS1
  obtain ⟨row, hrow⟩ : ∃ r, rw8 3 0 s.n L M T v (.slice ao fs.length cap) = r := ⟨_, rfl⟩
  have hS := HM4.out.row
  rw [hrow] at hS
  have hr7 : row[7]? = some (.slice ao fs.length cap) := by rw [← hrow]; rfl
  refine E.wp_region_last (fun W => W.heap[b]? = some (.cells row 62 (0, 0))) [(0, true), (1, true), (2, true), (3, true), (4, true), (5, true), (6, true), (8, true), (7, false), (9, false), (10, true), (11, false), (12, false), (13, false), (14, false), (15, false)] 16 _ rfl (by kernel_rfl) (by kernel_rfl) hS ?_
  simp only [E.selS, List.filterMap_cons, List.filterMap_nil, List.getElem?_cons_succ, List.getElem?_cons_zero, Option.map_some]
  have HS := hid hS
  clear hS
  refine E.wpS_val (.pointer (some ⟨b, 0, none⟩)) (by rfl) (fun W hS => by go_simp) ?_
  simp only [Act.put, List.setIfInBounds_toArray, List.set_cons_succ, List.set_cons_zero]
  refine E.wpS_val (.pointer (some ⟨b, 0, none⟩)) (by rfl) (fun W hS => by go_simp) ?_
  simp only [Act.put, List.setIfInBounds_toArray, List.set_cons_succ, List.set_cons_zero]
  refine E.wpS_val (.pointer (some ⟨b, 0, none⟩)) (by rfl) (fun W hS => by go_simp) ?_
  simp only [Act.put, List.setIfInBounds_toArray, List.set_cons_succ, List.set_cons_zero]
  refine E.wpS_val (.pointer (some ⟨b, 4, none⟩)) (by rfl) (fun W hS => by go_simp) ?_
  simp only [Act.put, List.setIfInBounds_toArray, List.set_cons_succ, List.set_cons_zero]
  refine E.wpS_val (.pointer (some ⟨b, 7, none⟩)) (by rfl) (fun W hS => by go_simp) ?_
  simp only [Act.put, List.setIfInBounds_toArray, List.set_cons_succ, List.set_cons_zero]
  refine E.wpS_val (.slice ao fs.length cap) (by rfl) (fun W hS => by have hcv := (cell_of_row W b 7 _ _ _ hS).trans hr7; go_simp) ?_
  simp only [Act.put, List.setIfInBounds_toArray, List.set_cons_succ, List.set_cons_zero]
  refine E.wpS_val (.string A) (by rfl) (fun W hS => by go_simp) ?_
  simp only [Act.put, List.setIfInBounds_toArray, List.set_cons_succ, List.set_cons_zero]
  refine E.wpS_val (.string V) (by rfl) (fun W hS => by go_simp) ?_
  simp only [Act.put, List.setIfInBounds_toArray, List.set_cons_succ, List.set_cons_zero]
  show wpList _ _ _ [_] _ _
  have HM5 := hid HM4.out.drew
  have HB5 := hid HB4.out.drew
  clear HM4 HB4 HS
  obtain ⟨wd, hwd⟩ : ∃ x, x = World.drew w4 := ⟨_, rfl⟩
  rw [← hwd] at HM5 HB5 ⊢
  clear hwd
  go_wp2_with fail
  refine (HLO.out _).mono ?_
  rintro e w5 ⟨⟨N, rfl, hN⟩, hB5⟩
  have HN := hid hN
  have HM6 := hid (HM5.out.below hB5)
  have HB6 := hid (HB5.out.trans (hB5.bel HM5.out.base_le))
  clear HM5 HB5 hB5 hN HLO
  go_wp2_with fail
  refine ⟨rfl, by rw [← hrow]; exact HM6.out.row, ?_⟩
  show wpList _ _ _ [_] _ _
  go_wp2_with fail
  refine (HTR.out _).mono ?_
  rintro e w6 ⟨⟨U, rfl, hU⟩, hB7⟩
  have HU := hid hU
  have HM7 := hid (HM6.out.below hB7)
  have HB7 := hid (HB6.out.trans (hB7.bel HM6.out.base_le))
  clear HM6 HB6 hB7 hU HTR
  go_wp2_with fail
  refine ⟨rfl, by rw [← hrow]; exact HM7.out.row, ?_⟩
  refine E.wpS_val (.agg #[.string N, .string U]) (by rfl) (fun W hS => by go_simp) ?_
  simp only [Act.put, List.setIfInBounds_toArray, List.set_cons_succ, List.set_cons_zero]
  show wpList _ _ _ [_] _ _
  go_wp2_with fail
  have HBA := (Below.refl w6.heap.size w6).alloc (Nat.le_refl _) (.cells #[.string N, .string U] 40)
  have HM8 := hid (HM7.out.below HBA)
  have HZ := hid (fld_new w6 ⟨N, U⟩)
  have HB8 := hid (HB7.out.trans (HBA.bel HM7.out.base_le))
  have hb8 : base ≤ (w6.alloc (.cells #[.string N, .string U] 40)).heap.size := HM8.out.base_le
  clear HBA HM7 HB7
  refine ⟨rfl, by rw [← hrow]; exact HM8.out.row, ?_⟩
  have hlen : fs.length + [(⟨N, U⟩ : Fb)].length ≤ 1000000000 := by simp; omega
  show wpList _ _ _ [_] _ _
  go_wp2_with (at_builtin; refine wpList_append_flds rfl _ _ rfl base _ fs rfl HM8.out.fl _ [⟨N, U⟩] rfl HZ.out hlen hb8 ?_; intro v' w9 r' g'; have HR9 := hid r'; obtain ⟨h91, h92, h93⟩ := HM8.out.grownF g'; have HW9 := hid h91; have HL9 := hid h92; have HB9 := hid (HB8.out.trans h93); clear r' g' h91 h92 h93)
  refine ⟨rfl, by rw [← hrow]; exact HW9.out, ?_⟩
  show wpList _ _ _ [_] _ _
  go_wp2_with fail
  refine ⟨rfl, by rw [← hrow]; exact HW9.out, ?_⟩
  show wpList _ _ _ [_] _ _
  go_wp2_with fail
  refine ⟨rfl, by rw [← hrow]; exact HW9.out, ?_⟩
  show wpList _ _ _ [_] _ _
  go_wp2_with fail
  refine ⟨rfl, by rw [← hrow]; exact HW9.out, ?_⟩
  obtain ⟨a9, c9, rfl⟩ := HR9.out.form
  obtain ⟨m10, b10, _⟩ := mem_set HM8.out.hb HW9.out 3 0 s.n L M T v (.slice a9 (fs ++ [(⟨N, U⟩ : Fb)]).length c9) s.cur (fs ++ [⟨N, U⟩]) HL9.out HR9.out
  have HM10 := hid m10
  have HB10 := hid (HB9.out.trans b10)
  clear m10 b10
  have hw9 := HW9.out
  go_wp2_with (refine wpList_store_in rfl 25 (.tmp 57) (.tmp 54) rfl b 7 (.slice a9 (fs ++ [(⟨N, U⟩ : Fb)]).length c9) rfl rfl rfl 62 _ hw9 (show (7 : Nat) < 8 by decide) (by kernel_rfl) ?_)
  refine ⟨rfl, ?_⟩
  go_end0
  have hw : w9.setRow b (row.setIfInBounds 7 (.slice a9 (fs.length + 1) c9)) = w9.setRow b (rw8 3 0 s.n L M T v (.slice a9 (fs ++ [(⟨N, U⟩ : Fb)]).length c9)) := by
    rw [← hrow, List.length_append]; rfl
  rw [hw]
  have hstn : stN { s with cur := [], h := { s.h with f := s.h.f ++ [x] } } = 3 := by unfold stN; rw [hi]; rfl
  have h1 := HM10.out
  rw [hc] at h1
  have h2 : (⟨s.h.m, s.h.t, s.h.v, s.h.f ++ [x]⟩ : H) = ⟨bn M, bn T, v, (fs ++ [(⟨N, U⟩ : Fb)]).map Fb.f⟩ := by
    rw [HRR.out.1, HX.out, ← HN.out, ← HU.out, List.map_append]
    rfl
  refine ⟨.inr (.inl ⟨HL.out.e, HL.out.d, rfl, ?_⟩), HB10.out⟩
  exact ⟨⟨L, M, T, v, .slice a9 (fs ++ [(⟨N, U⟩ : Fb)]).length c9, fs ++ [⟨N, U⟩], by rw [hstn]; exact h1, h2, HRR.out.2.1, HRR.out.2.2.1, by rw [List.length_append]; simp; omega⟩, HL.out.d, HL.out.e, Nat.zero_le _, HL.out.n, (fun x hx => by cases hx), (fun h => by rw [show s.is = false from h] at hi; cases hi)⟩
end Go.Proofs.YtacbfbhhhofifaaDoor.Hd
