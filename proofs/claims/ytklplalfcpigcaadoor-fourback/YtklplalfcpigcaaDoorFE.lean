/- The document's Ends. (Stage 10.) -/
import Derived.Test.YtklplalfcpigcaaDoorFG
namespace Go.Proofs.YtklplalfcpigcaaDoor.F
open Go.RowKit
set_option linter.unusedVariables false

theorem parts_last {l : List Int} {qs : List ByteArray} {z : Nat} (h : qs.map bn = prt l) (hz : qs.length = z + 1) : (prt l).getLast?.getD [] = bn (qs[z]?.getD ⟨#[]⟩) := by rw [← h, last_at hz]; rfl
theorem spl_len : ∀ (l p : List Int), p ∈ spl l → p.length ≤ l.length
  | [], p, h => by simp [spl] at h; simp [h]
  | c :: l, p, h => by
    have ht := head_tail (spl_ne l)
    have mem : ∀ q, q ∈ (spl l).tail ∨ q = (spl l).headD [] → q ∈ spl l := fun q hq => by
      rw [← ht]
      rcases hq with hq | hq
      · exact List.mem_cons_of_mem _ hq
      · rw [hq]; exact List.mem_cons_self
    rw [spl] at h
    split at h
    · rcases List.mem_cons.1 h with rfl | h
      · simp
      · have := spl_len l p h; simp; omega
    · rcases List.mem_cons.1 h with rfl | h
      · have := spl_len l _ (mem _ (.inr rfl)); simp at this ⊢; omega
      · have := spl_len l p (mem p (.inl h)); simp; omega
theorem prt_mem {l p : List Int} (h : p ∈ prt l) : p ∈ spl l := by
  unfold prt at h
  split at h
  · exact (List.dropLast_subset _) h
  · exact h
theorem spl_cnt : ∀ (l : List Int), (spl l).length ≤ l.length + 1
  | [] => by simp [spl]
  | c :: l => by
    have ih := spl_cnt l
    have ht := congrArg List.length (head_tail (spl_ne l))
    rw [List.length_cons] at ht
    rw [spl]
    split
    · simp; omega
    · simp only [List.length_cons]; omega
theorem prt_cnt (l : List Int) : (prt l).length ≤ l.length + 1 := by
  have := spl_cnt l
  unfold prt
  split
  · rw [List.length_dropLast]; omega
  · exact this
theorem parts_size {s q : ByteArray} {qs : List ByteArray} (h : qs.map bn = prt (bn s)) (hq : q ∈ qs) : q.size ≤ s.size := by
  have h1 : bn q ∈ prt (bn s) := by rw [← h]; exact List.mem_map.2 ⟨q, hq, rfl⟩
  have h2 := spl_len _ _ (prt_mem h1)
  rwa [bn_length, bn_length] at h2
/-- Digits so far. -/
def dgs (p : List Int) (k : Nat) : Bool := decide (p ≠ []) && (p.take k).all ten
theorem dgs_zero (p : List Int) : dgs p 0 = decide (p ≠ []) := by unfold dgs; simp
theorem dgs_step {p : List Int} {k : Nat} (hk : k < p.length) : dgs p (k + 1) = (dgs p k && ten (p[k]?.getD 0)) := by
  unfold dgs
  rw [take_one p k hk, List.all_append, Bool.and_assoc]; simp
theorem dgs_all {p : List Int} {k : Nat} (hk : p.length ≤ k) : dgs p k = (decide (p ≠ []) && p.all ten) := by unfold dgs; rw [List.take_of_length_le hk]
theorem endP_of (p : List Int) (g : Bool) (h : (decide (p ≠ []) && p.all ten) = g) : endP p = (g || (isX p && decide ((num p).2 ≠ 8))) := by unfold endP; rw [h]
set_option maxRecDepth 100000 in
set_option maxHeartbeats 8000000 in
theorem rends_any (s : ByteArray) (w : World) (hs : s.size ≤ 100000) :
    Calls Tryd.prog 13 #[.string s] w fun e W' => e = .returned (.bool (ends (bn s))) ∧ Below w.heap.size w W' := by
  have HPA := hid (rparts_any s w hs)
  obtain ⟨R, hR⟩ : ∃ R, ends (bn s) = R := ⟨_, rfl⟩
  have HRE := hid hR
  rw [hR]
  clear hR
  go_enter Tryd.func13, Tryd.ntmps13
  go_wp2_with fail
  refine HPA.out.mono ?_
  rintro e w1 ⟨⟨b, c, qs, rfl, hne, hqs, hcb⟩, B1⟩
  obtain ⟨z, hz⟩ : ∃ z, qs.length = z + 1 := ⟨qs.length - 1, by have := List.length_pos_iff.2 hne; omega⟩
  have hcz := hcb z (by omega)
  have HEN : Hid (R = endP (bn (qs[z]?.getD ⟨#[]⟩))) := by show _ = _; rw [← HRE.out]; unfold ends; rw [parts_last hqs hz]
  have hml : qs.length ≤ 100001 := by
    have h1 := prt_cnt (bn s)
    rw [← hqs, List.length_map, bn_length] at h1
    omega
  have HSZ : Hid ((qs[z]?.getD ⟨#[]⟩).size ≤ 100000) := by
    show _ ≤ _
    have h1 : qs[z]?.getD ⟨#[]⟩ ∈ qs := by rw [List.getElem?_eq_getElem (by omega)]; exact List.getElem_mem _
    exact Nat.le_trans (parts_size hqs h1) hs
  obtain ⟨D, hD⟩ : ∃ D, qs[z]?.getD ⟨#[]⟩ = D := ⟨_, rfl⟩
  rw [hD] at hcz HEN HSZ
  obtain ⟨m, hm⟩ : ∃ m, qs.length = m := ⟨_, rfl⟩
  rw [hm] at hz hml ⊢
  have hds := HSZ.out
  have HB1 := hid B1
  have hzz : (m : Int) - 1 = (z : Int) := by omega
  have hzw : IntKind.i64.wrap (z : Int) = (z : Int) := by simp [IntKind.wrap, IntKind.bits, IntKind.signed]; omega
  have hzl : (z : Int) < (m : Int) := by omega
  have HD0 : Hid (dgs (bn D) 0 = decide (bn D ≠ [])) := dgs_zero _
  have HDS := hid (fun k (h : k < D.size) => dgs_step (p := bn D) (k := k) (by rw [bn_length]; exact h))
  have HDA : Hid (∀ k, D.size ≤ k → dgs (bn D) k = (decide (bn D ≠ []) && (bn D).all ten)) := fun k h => dgs_all (by rw [bn_length]; exact h)
  have HGT := hid (bn_get D)
  have HEP := hid (endP_of (bn D))
  clear hD HRE hqs hcb hne hm HSZ B1 HPA
  by_cases hd0 : D.size = 0
  · have hemp : D.toList.isEmpty = true := isEmpty_true D hd0
    have hnn : decide (bn D ≠ []) = false := decide_eq_false (fun h => h (List.length_eq_zero_iff.1 (by rw [bn_length]; exact hd0)))
    have HAT := hid hnn
    clear hd0 hnn
    go_wp2_with fail
    go_loop [5, 6] (fun v5 v6 => ∃ (k : Nat) (g : Bool), k ≤ D.size ∧ v5 = .bool g ∧ v6 = .int .i64 k ∧ Hid (g = dgs (bn D) k)) (fun _ v6 => D.size - (intOf v6).toNat)
    case atStart => exact ⟨0, _, Nat.zero_le _, rfl, rfl, by show _ = _; rw [HD0.out, HAT.out]⟩
    case round =>
      obtain ⟨k, g, hk, rfl, rfl, HG⟩ := hrel
      by_cases hlt : k < D.size
      · have HST := hid (HDS.out k hlt)
        rw [← HG.out] at HST
        have hg := (HGT.out k hlt).symm
        have hyb := byte_bd hlt
        have HTE : Hid (ten ((bn D)[k]?.getD 0) = decide (48 ≤ (bn D)[k]?.getD 0 ∧ (bn D)[k]?.getD 0 ≤ 57)) := rfl
        obtain ⟨y, hy⟩ : ∃ y, (bn D)[k]?.getD 0 = y := ⟨_, rfl⟩
        rw [hy] at HST hg HTE hyb
        obtain ⟨hy0, hy1⟩ := hyb
        clear hy HDA HEP HGT HDS HG
        cases g with
        | false =>
          have HF : Hid (dgs (bn D) (k + 1) = false) := by show _ = _; rw [HST.out]; rfl
          clear HST HTE
          go_wp2
          exact ⟨⟨k + 1, false, by omega, rfl, by go_num, HF.out.symm⟩, by simp [intOf]; omega⟩
        | true =>
          by_cases c1 : 48 ≤ y
          · by_cases c2 : y ≤ 57
            · have HF : Hid (dgs (bn D) (k + 1) = true) := by show _ = _; rw [HST.out, HTE.out, decide_eq_true ⟨c1, c2⟩]; rfl
              clear HST HTE
              go_wp2
              exact ⟨⟨k + 1, true, by omega, rfl, by go_num, HF.out.symm⟩, by simp [intOf]; omega⟩
            · have HF : Hid (dgs (bn D) (k + 1) = false) := by show _ = _; rw [HST.out, HTE.out, decide_eq_false (fun h => c2 h.2)]; rfl
              clear HST HTE
              go_wp2
              exact ⟨⟨k + 1, false, by omega, rfl, by go_num, HF.out.symm⟩, by simp [intOf]; omega⟩
          · have HF : Hid (dgs (bn D) (k + 1) = false) := by show _ = _; rw [HST.out, HTE.out, decide_eq_false (fun h => c1 h.1)]; rfl
            clear HST HTE
            go_wp2
            exact ⟨⟨k + 1, false, by omega, rfl, by go_num, HF.out.symm⟩, by simp [intOf]; omega⟩
      · have HV := hid (HEP.out g (by rw [← HDA.out k (by omega)]; exact HG.out.symm))
        clear HDA HEP HDS HG HD0
        cases g with
        | true =>
          have HRT : Hid (R = true) := by show _ = _; rw [HEN.out, HV.out]; rfl
          clear HV HEN
          go_wp2
          go_ret
          exact ⟨by rw [HRT.out]; rfl, HB1.out⟩
        | false =>
          have HRF : Hid (R = (isX (bn D) && decide ((num (bn D)).2 ≠ 8))) := by show _ = _; rw [HEN.out, HV.out]; rfl
          clear HV HEN
          have HNU : Hid (∀ W, Calls Tryd.prog 9 #[.string D] W fun e W' => e = .returned (.tuple #[.int .u64 ((num (bn D)).1 : Nat), .int .i64 (num (bn D)).2]) ∧ W' = W) := fun W => rnumber_any D W hds
          obtain ⟨N1, hN1⟩ : ∃ N1, (num (bn D)).1 = N1 := ⟨_, rfl⟩
          obtain ⟨N2, hN2⟩ : ∃ N2, (num (bn D)).2 = N2 := ⟨_, rfl⟩
          rw [hN1, hN2] at HNU
          rw [hN2] at HRF
          clear hN1 hN2
          by_cases h2 : 2 ≤ D.size
          · have h2z : (2 : Int) ≤ (D.size : Int) := by omega
            have hg0 := (HGT.out 0 (by omega)).symm
            have hg1 := (HGT.out 1 (by omega)).symm
            obtain ⟨e0, he0⟩ : ∃ e0, (bn D)[0]?.getD 0 = e0 := ⟨_, rfl⟩
            obtain ⟨e1, he1⟩ : ∃ e1, (bn D)[1]?.getD 0 = e1 := ⟨_, rfl⟩
            have HXD : Hid (isX (bn D) = decide (2 ≤ (bn D).length ∧ e0 = 48 ∧ (e1 = 120 ∨ e1 = 88))) := by show _ = _; rw [← he0, ← he1]; rfl
            rw [bn_length] at HXD
            rw [he0] at hg0
            rw [he1] at hg1
            clear he0 he1 HGT
            by_cases c0 : e0 = 48
            · have b0 : (e0 == 48) = true := by simpa using c0
              by_cases c1 : e1 = 120
              · have b1 : (e1 == 120) = true := by simpa using c1
                have hX : isX (bn D) = true := by rw [HXD.out]; exact decide_eq_true ⟨h2, c0, .inl c1⟩
                by_cases c8 : N2 = 8
                · have b8 : (N2 != 8) = false := by simp [c8]
                  have HV : Hid (R = false) := by show _ = _; rw [HRF.out, hX, decide_eq_false (fun h => h c8)]; rfl
                  clear HXD HRF hX c8 c0 c1
                  go_wp2_with (go_at_call 9; refine (HNU.out _).mono ?_; rintro e w2 ⟨he2, hw2⟩; obtain rfl := hw2.symm; obtain rfl := he2)
                  go_ret
                  exact ⟨by rw [HV.out]; rfl, HB1.out⟩
                · have b8 : (N2 != 8) = true := by simpa using c8
                  have HV : Hid (R = true) := by show _ = _; rw [HRF.out, hX, decide_eq_true c8]; rfl
                  clear HXD HRF hX c8 c0 c1
                  go_wp2_with (go_at_call 9; refine (HNU.out _).mono ?_; rintro e w2 ⟨he2, hw2⟩; obtain rfl := hw2.symm; obtain rfl := he2)
                  go_ret
                  exact ⟨by rw [HV.out]; rfl, HB1.out⟩
              · have b1 : (e1 == 120) = false := by simpa using c1
                by_cases c2 : e1 = 88
                · have b2 : (e1 == 88) = true := by simpa using c2
                  have hX : isX (bn D) = true := by rw [HXD.out]; exact decide_eq_true ⟨h2, c0, .inr c2⟩
                  by_cases c8 : N2 = 8
                  · have b8 : (N2 != 8) = false := by simp [c8]
                    have HV : Hid (R = false) := by show _ = _; rw [HRF.out, hX, decide_eq_false (fun h => h c8)]; rfl
                    clear HXD HRF hX c8 c0 c1 c2
                    go_wp2_with (go_at_call 9; refine (HNU.out _).mono ?_; rintro e w2 ⟨he2, hw2⟩; obtain rfl := hw2.symm; obtain rfl := he2)
                    go_ret
                    exact ⟨by rw [HV.out]; rfl, HB1.out⟩
                  · have b8 : (N2 != 8) = true := by simpa using c8
                    have HV : Hid (R = true) := by show _ = _; rw [HRF.out, hX, decide_eq_true c8]; rfl
                    clear HXD HRF hX c8 c0 c1 c2
                    go_wp2_with (go_at_call 9; refine (HNU.out _).mono ?_; rintro e w2 ⟨he2, hw2⟩; obtain rfl := hw2.symm; obtain rfl := he2)
                    go_ret
                    exact ⟨by rw [HV.out]; rfl, HB1.out⟩
                · have b2 : (e1 == 88) = false := by simpa using c2
                  have HV : Hid (R = false) := by show _ = _; rw [HRF.out, HXD.out, decide_eq_false (fun h => h.2.2.elim c1 c2)]; rfl
                  clear HXD HRF c0 c1 c2
                  go_wp2_with (go_at_call 9; refine (HNU.out _).mono ?_; rintro e w2 ⟨he2, hw2⟩; obtain rfl := hw2.symm; obtain rfl := he2)
                  go_ret
                  exact ⟨by rw [HV.out]; rfl, HB1.out⟩
            · have b0 : (e0 == 48) = false := by simpa using c0
              have HV : Hid (R = false) := by show _ = _; rw [HRF.out, HXD.out, decide_eq_false (fun h => c0 h.2.1)]; rfl
              clear HXD HRF c0
              go_wp2_with (go_at_call 9; refine (HNU.out _).mono ?_; rintro e w2 ⟨he2, hw2⟩; obtain rfl := hw2.symm; obtain rfl := he2)
              go_ret
              exact ⟨by rw [HV.out]; rfl, HB1.out⟩
          · have h2z : ¬ (2 : Int) ≤ (D.size : Int) := by omega
            have HV : Hid (R = false) := by
              show _ = _
              have hX : isX (bn D) = false := by unfold isX; exact decide_eq_false (fun h => h2 (by have := h.1; rw [bn_length] at this; exact this))
              rw [HRF.out, hX]; rfl
            clear HRF HGT
            go_wp2_with (go_at_call 9; refine (HNU.out _).mono ?_; rintro e w2 ⟨he2, hw2⟩; obtain rfl := hw2.symm; obtain rfl := he2)
            go_ret
            exact ⟨by rw [HV.out]; rfl, HB1.out⟩
  · have hemp : D.toList.isEmpty = false := isEmpty_false D (by omega)
    have hnn : decide (bn D ≠ []) = true := decide_eq_true (fun e => hd0 (by rw [← bn_length, e]; rfl))
    have HAT := hid hnn
    clear hnn
    go_wp2_with fail
    go_loop [5, 6] (fun v5 v6 => ∃ (k : Nat) (g : Bool), k ≤ D.size ∧ v5 = .bool g ∧ v6 = .int .i64 k ∧ Hid (g = dgs (bn D) k)) (fun _ v6 => D.size - (intOf v6).toNat)
    case atStart => exact ⟨0, _, Nat.zero_le _, rfl, rfl, by show _ = _; rw [HD0.out, HAT.out]⟩
    case round =>
      obtain ⟨k, g, hk, rfl, rfl, HG⟩ := hrel
      by_cases hlt : k < D.size
      · have HST := hid (HDS.out k hlt)
        rw [← HG.out] at HST
        have hg := (HGT.out k hlt).symm
        have hyb := byte_bd hlt
        have HTE : Hid (ten ((bn D)[k]?.getD 0) = decide (48 ≤ (bn D)[k]?.getD 0 ∧ (bn D)[k]?.getD 0 ≤ 57)) := rfl
        obtain ⟨y, hy⟩ : ∃ y, (bn D)[k]?.getD 0 = y := ⟨_, rfl⟩
        rw [hy] at HST hg HTE hyb
        obtain ⟨hy0, hy1⟩ := hyb
        clear hy HDA HEP HGT HDS HG
        cases g with
        | false =>
          have HF : Hid (dgs (bn D) (k + 1) = false) := by show _ = _; rw [HST.out]; rfl
          clear HST HTE
          go_wp2
          exact ⟨⟨k + 1, false, by omega, rfl, by go_num, HF.out.symm⟩, by simp [intOf]; omega⟩
        | true =>
          by_cases c1 : 48 ≤ y
          · by_cases c2 : y ≤ 57
            · have HF : Hid (dgs (bn D) (k + 1) = true) := by show _ = _; rw [HST.out, HTE.out, decide_eq_true ⟨c1, c2⟩]; rfl
              clear HST HTE
              go_wp2
              exact ⟨⟨k + 1, true, by omega, rfl, by go_num, HF.out.symm⟩, by simp [intOf]; omega⟩
            · have HF : Hid (dgs (bn D) (k + 1) = false) := by show _ = _; rw [HST.out, HTE.out, decide_eq_false (fun h => c2 h.2)]; rfl
              clear HST HTE
              go_wp2
              exact ⟨⟨k + 1, false, by omega, rfl, by go_num, HF.out.symm⟩, by simp [intOf]; omega⟩
          · have HF : Hid (dgs (bn D) (k + 1) = false) := by show _ = _; rw [HST.out, HTE.out, decide_eq_false (fun h => c1 h.1)]; rfl
            clear HST HTE
            go_wp2
            exact ⟨⟨k + 1, false, by omega, rfl, by go_num, HF.out.symm⟩, by simp [intOf]; omega⟩
      · have HV := hid (HEP.out g (by rw [← HDA.out k (by omega)]; exact HG.out.symm))
        clear HDA HEP HDS HG HD0
        cases g with
        | true =>
          have HRT : Hid (R = true) := by show _ = _; rw [HEN.out, HV.out]; rfl
          clear HV HEN
          go_wp2
          go_ret
          exact ⟨by rw [HRT.out]; rfl, HB1.out⟩
        | false =>
          have HRF : Hid (R = (isX (bn D) && decide ((num (bn D)).2 ≠ 8))) := by show _ = _; rw [HEN.out, HV.out]; rfl
          clear HV HEN
          have HNU : Hid (∀ W, Calls Tryd.prog 9 #[.string D] W fun e W' => e = .returned (.tuple #[.int .u64 ((num (bn D)).1 : Nat), .int .i64 (num (bn D)).2]) ∧ W' = W) := fun W => rnumber_any D W hds
          obtain ⟨N1, hN1⟩ : ∃ N1, (num (bn D)).1 = N1 := ⟨_, rfl⟩
          obtain ⟨N2, hN2⟩ : ∃ N2, (num (bn D)).2 = N2 := ⟨_, rfl⟩
          rw [hN1, hN2] at HNU
          rw [hN2] at HRF
          clear hN1 hN2
          by_cases h2 : 2 ≤ D.size
          · have h2z : (2 : Int) ≤ (D.size : Int) := by omega
            have hg0 := (HGT.out 0 (by omega)).symm
            have hg1 := (HGT.out 1 (by omega)).symm
            obtain ⟨e0, he0⟩ : ∃ e0, (bn D)[0]?.getD 0 = e0 := ⟨_, rfl⟩
            obtain ⟨e1, he1⟩ : ∃ e1, (bn D)[1]?.getD 0 = e1 := ⟨_, rfl⟩
            have HXD : Hid (isX (bn D) = decide (2 ≤ (bn D).length ∧ e0 = 48 ∧ (e1 = 120 ∨ e1 = 88))) := by show _ = _; rw [← he0, ← he1]; rfl
            rw [bn_length] at HXD
            rw [he0] at hg0
            rw [he1] at hg1
            clear he0 he1 HGT
            by_cases c0 : e0 = 48
            · have b0 : (e0 == 48) = true := by simpa using c0
              by_cases c1 : e1 = 120
              · have b1 : (e1 == 120) = true := by simpa using c1
                have hX : isX (bn D) = true := by rw [HXD.out]; exact decide_eq_true ⟨h2, c0, .inl c1⟩
                by_cases c8 : N2 = 8
                · have b8 : (N2 != 8) = false := by simp [c8]
                  have HV : Hid (R = false) := by show _ = _; rw [HRF.out, hX, decide_eq_false (fun h => h c8)]; rfl
                  clear HXD HRF hX c8 c0 c1
                  go_wp2_with (go_at_call 9; refine (HNU.out _).mono ?_; rintro e w2 ⟨he2, hw2⟩; obtain rfl := hw2.symm; obtain rfl := he2)
                  go_ret
                  exact ⟨by rw [HV.out]; rfl, HB1.out⟩
                · have b8 : (N2 != 8) = true := by simpa using c8
                  have HV : Hid (R = true) := by show _ = _; rw [HRF.out, hX, decide_eq_true c8]; rfl
                  clear HXD HRF hX c8 c0 c1
                  go_wp2_with (go_at_call 9; refine (HNU.out _).mono ?_; rintro e w2 ⟨he2, hw2⟩; obtain rfl := hw2.symm; obtain rfl := he2)
                  go_ret
                  exact ⟨by rw [HV.out]; rfl, HB1.out⟩
              · have b1 : (e1 == 120) = false := by simpa using c1
                by_cases c2 : e1 = 88
                · have b2 : (e1 == 88) = true := by simpa using c2
                  have hX : isX (bn D) = true := by rw [HXD.out]; exact decide_eq_true ⟨h2, c0, .inr c2⟩
                  by_cases c8 : N2 = 8
                  · have b8 : (N2 != 8) = false := by simp [c8]
                    have HV : Hid (R = false) := by show _ = _; rw [HRF.out, hX, decide_eq_false (fun h => h c8)]; rfl
                    clear HXD HRF hX c8 c0 c1 c2
                    go_wp2_with (go_at_call 9; refine (HNU.out _).mono ?_; rintro e w2 ⟨he2, hw2⟩; obtain rfl := hw2.symm; obtain rfl := he2)
                    go_ret
                    exact ⟨by rw [HV.out]; rfl, HB1.out⟩
                  · have b8 : (N2 != 8) = true := by simpa using c8
                    have HV : Hid (R = true) := by show _ = _; rw [HRF.out, hX, decide_eq_true c8]; rfl
                    clear HXD HRF hX c8 c0 c1 c2
                    go_wp2_with (go_at_call 9; refine (HNU.out _).mono ?_; rintro e w2 ⟨he2, hw2⟩; obtain rfl := hw2.symm; obtain rfl := he2)
                    go_ret
                    exact ⟨by rw [HV.out]; rfl, HB1.out⟩
                · have b2 : (e1 == 88) = false := by simpa using c2
                  have HV : Hid (R = false) := by show _ = _; rw [HRF.out, HXD.out, decide_eq_false (fun h => h.2.2.elim c1 c2)]; rfl
                  clear HXD HRF c0 c1 c2
                  go_wp2_with (go_at_call 9; refine (HNU.out _).mono ?_; rintro e w2 ⟨he2, hw2⟩; obtain rfl := hw2.symm; obtain rfl := he2)
                  go_ret
                  exact ⟨by rw [HV.out]; rfl, HB1.out⟩
            · have b0 : (e0 == 48) = false := by simpa using c0
              have HV : Hid (R = false) := by show _ = _; rw [HRF.out, HXD.out, decide_eq_false (fun h => c0 h.2.1)]; rfl
              clear HXD HRF c0
              go_wp2_with (go_at_call 9; refine (HNU.out _).mono ?_; rintro e w2 ⟨he2, hw2⟩; obtain rfl := hw2.symm; obtain rfl := he2)
              go_ret
              exact ⟨by rw [HV.out]; rfl, HB1.out⟩
          · have h2z : ¬ (2 : Int) ≤ (D.size : Int) := by omega
            have HV : Hid (R = false) := by
              show _ = _
              have hX : isX (bn D) = false := by unfold isX; exact decide_eq_false (fun h => h2 (by have := h.1; rw [bn_length] at this; exact this))
              rw [HRF.out, hX]; rfl
            clear HRF HGT
            go_wp2_with (go_at_call 9; refine (HNU.out _).mono ?_; rintro e w2 ⟨he2, hw2⟩; obtain rfl := hw2.symm; obtain rfl := he2)
            go_ret
            exact ⟨by rw [HV.out]; rfl, HB1.out⟩
end Go.Proofs.YtklplalfcpigcaaDoor.F
