/- Texts of one layer, one behind the other: NRE NRF. -/
import Derived.Test.YtpkegjbmnilmdaaDoorZN9
import Derived.Test.YtpkegjbmnilmdaaDoorZU3
import Derived.Test.YtpkegjbmnilmdaaDoorZU5
/- Putting together, as the document's own definition goes about it. -/
namespace Go.Proofs.YtpkegjbmnilmdaaDoor.N
open Go.RowKit
set_option linter.unusedVariables false

def lenOf : Value → Nat
  | .slice _ n _ => n
  | _ => 0
theorem sizeOf22 (W : World) : (sizeOf (Tryd.prog.elem 38)).run Tryd.prog W = .ok 1 W := by kernel_rfl
/-- What stands ahead of place i, and what stands behind it. -/
theorem cut_any {W : World} {base g m cap i : Nat} {Z : List Int} (h : W.ownsRow base 21 1 (.slice (some ⟨g, 0, none⟩) m cap) m (Z.map (Value.int .i32))) (hn : Z.length = m) (hi : i < m) (hsz : m ≤ 100000) :
    ∃ vl vr, (∀ W2, (Instr.slice 38 (.slice (some ⟨g, 0, none⟩) m cap) none (some (.int .i64 (i : Int))) none).run Tryd.prog W2 = .ok vl W2) ∧
      (∀ W2, (Instr.slice 38 (.slice (some ⟨g, 0, none⟩) m cap) (some (.int .i64 ((i : Int) + 1))) none none).run Tryd.prog W2 = .ok vr W2) ∧
      U.SrcInts W vl (Z.take i) ∧ U.SrcInts W vr (Z.drop (i + 1)) := by
  have hmc : m ≤ cap := by
    rcases h.2 with ⟨h, _⟩ | ⟨g', cap', cur, h, _, _, hnc, _⟩
    · cases h
    · cases h; exact hnc
  obtain ⟨g', c', e, _, hc⟩ := own_get h hn.symm (by omega)
  cases e
  have ht : (Z.take i).length = i := by rw [List.length_take]; omega
  have hd : (Z.drop (i + 1)).length = m - (i + 1) := by rw [List.length_drop]; omega
  refine ⟨.slice (some ⟨g, 0, none⟩) i cap, .slice (if cap = i + 1 then some ⟨g, 0, none⟩ else some ⟨g, i + 1, none⟩) (m - (i + 1)) (cap - (i + 1)), fun W2 => ?_, fun W2 => ?_, ?_, ?_⟩
  · rw [run_slice_h W2 38 (some ⟨g, 0, none⟩) m cap (by kernel_rfl) .i64 (i : Int) (by omega) (by omega), sizeOf22 W2]
    simp only [Result.andThen, sliced, Int.toNat_natCast]
    split <;> simp [Addr.add]
  · rw [run_slice_l W2 38 (some ⟨g, 0, none⟩) m cap (by kernel_rfl) .i64 ((i : Int) + 1) (by omega) (by omega), sizeOf22 W2]
    have e1 : ((i : Int) + 1).toNat = i + 1 := by omega
    simp only [Result.andThen, sliced, e1]
    split <;> simp [Addr.add]
  · refine .inr ⟨⟨g, 0, none⟩, cap, by rw [ht], fun j hj => ?_⟩
    rw [ht] at hj
    rw [U.addr_add0, hc j (by omega), List.getElem?_take_of_lt hj]
  · by_cases hm : cap = i + 1
    · refine .inr ⟨⟨g, 0, none⟩, _, by rw [if_pos hm, hd], fun j hj => ?_⟩
      rw [hd] at hj; omega
    · refine .inr ⟨⟨g, i + 1, none⟩, _, by rw [if_neg hm, hd], fun j hj => ?_⟩
      rw [hd] at hj
      rw [Addr.add_lit, hc (i + 1 + j) (by omega), List.getElem?_drop]

def St (l : List Pt) (N k m i : Nat) (t : TS) : Prop := k ≤ N ∧ t = tst (l.take k) ∧ m = (tout t).length + (N - k) ∧ (i = (tout t).length ∨ N = 0)
theorem St.first (l : List Pt) (N : Nat) (hN : l.length = N) : ∃ k t, St l N k N 1 t ∧ zof t (l.drop k) = l.map (·.1) := by
  cases l with
  | nil =>
    subst hN
    exact ⟨0, (none, []), ⟨Nat.le_refl _, rfl, rfl, .inr rfl⟩, rfl⟩
  | cons c l =>
    subst hN
    refine ⟨1, tstep (none, []) c, ⟨by simp, rfl, ?_, .inl ?_⟩, ?_⟩
    · by_cases h : c.2 = 0 <;> simp [tstep, h, tout] <;> omega
    · by_cases h : c.2 = 0 <;> simp [tstep, h, tout]
    · by_cases h : c.2 = 0 <;> simp [zof, tstep, h, tout]
theorem St.here {l : List Pt} {N k m i : Nat} {t : TS} (h : St l N k m i t) (hN : l.length = N) (hi : i < m) : i = (tout t).length ∧ k < N ∧ l.drop k = (l[k]?.getD z2) :: l.drop (k + 1) ∧ m = i + (N - k) := by
  obtain ⟨h1, h2, h3, h4⟩ := h
  have hl : (tout t).length ≤ k := by rw [h2]; have := tst_len (l.take k); rw [List.length_take] at this; omega
  have hi' : i = (tout t).length := by
    rcases h4 with h4 | h4
    · exact h4
    · omega
  have hk : k < N := by omega
  refine ⟨hi', hk, ?_, by omega⟩
  rw [List.drop_eq_getElem_cons (by omega), List.getElem?_eq_getElem (by omega)]
  rfl
theorem St.end {l : List Pt} {N k m i : Nat} {t : TS} (h : St l N k m i t) (hN : l.length = N) (hi : ¬ i < m) : zof t (l.drop k) = (comp l).map (·.1) ∧ m = ((comp l).map (·.1)).length := by
  obtain ⟨h1, h2, h3, h4⟩ := h
  have hk : k = N := by
    rcases h4 with h4 | h4 <;> omega
  subst hk
  rw [List.take_of_length_le (by omega)] at h2
  have hd : l.drop k = [] := List.drop_of_length_le (by omega)
  refine ⟨by rw [hd, h2]; simp [zof, comp], by rw [h3, h2]; simp [comp]⟩
theorem St.app {l : List Pt} {N k m i : Nat} {t : TS} {c : Pt} (h : St l N k m i t) (hN : l.length = N) (hi : i < m) (hc : l[k]?.getD z2 = c) (hs : tstep t c = app t c) : St l N (k + 1) m (i + 1) (app t c) ∧ zof (app t c) (l.drop (k + 1)) = zof t (c :: l.drop (k + 1)) := by
  obtain ⟨h5, h6, h7, h8⟩ := h.here hN hi
  obtain ⟨h1, h2, h3, h4⟩ := h
  have ho := app_out t c
  refine ⟨⟨by omega, ?_, ?_, .inl ?_⟩, ?_⟩
  · rw [tst_take l k (by omega), hc, ← h2, hs]
  · rw [ho]; simp; omega
  · rw [ho]; simp; omega
  · unfold zof; rw [ho]; simp
theorem St.pair {l : List Pt} {N k m i : Nat} {A B : List Pt} {s c : Pt} {q : Int} (h : St l N k m i (some (A, s), B)) (hN : l.length = N) (hi : i < m) (hc : l[k]?.getD z2 = c) (hr : reach (some (A, s), B) c = true) (hq : pr s.1 c.1 = (q, true)) :
    St l N (k + 1) (m - 1) i (some (A, (q, s.2)), B) ∧ zof (some (A, (q, s.2)), B) (l.drop (k + 1)) = ((zof (some (A, s), B) (c :: l.drop (k + 1))).set A.length q).take i ++ ((zof (some (A, s), B) (c :: l.drop (k + 1))).set A.length q).drop (i + 1) := by
  obtain ⟨h5, h6, h7, h8⟩ := h.here hN hi
  obtain ⟨h1, h2, h3, h4⟩ := h
  have hs := tstep_pair hr hq
  have hlen : (A ++ (q, s.2) :: B).length = i := by rw [h5]; simp [tout]
  refine ⟨⟨by omega, ?_, ?_, .inl ?_⟩, ?_⟩
  · rw [tst_take l k (by omega), hc, ← h2, hs]
  · show _ = (A ++ (q, s.2) :: B).length + _; omega
  · exact hlen.symm
  · have e : (zof (some (A, s), B) (c :: l.drop (k + 1))).set A.length q = (A ++ (q, s.2) :: B).map (·.1) ++ c.1 :: (l.drop (k + 1)).map (·.1) := by
      unfold zof tout
      simp
    have e0 : zof (some (A, (q, s.2)), B) (l.drop (k + 1)) = (A ++ (q, s.2) :: B).map (·.1) ++ (l.drop (k + 1)).map (·.1) := by simp [zof, tout]
    have hl2 : ((A ++ (q, s.2) :: B).map (·.1)).length = i := by rw [List.length_map, hlen]
    rw [e, e0]
    generalize (A ++ (q, s.2) :: B).map (·.1) = T at hl2 ⊢
    have hT : T.drop (i + 1) = [] := List.drop_of_length_le (by omega)
    rw [List.take_left' hl2, List.drop_append, hT, show i + 1 - T.length = 1 by omega]
    rfl
theorem zof_len {l : List Pt} {N k m i : Nat} {t : TS} (h : St l N k m i t) (hN : l.length = N) : (zof t (l.drop k)).length = m := by
  unfold zof
  rw [h.2.2.1, List.length_map, List.length_append, List.length_drop, hN]

set_option maxRecDepth 100000 in
set_option maxHeartbeats 8000000 in
theorem rnfc_any (v : Value) (L : List Int) (w : World) (hlen : L.length ≤ 10000) (hv : U.IntsAt w v L) : Calls Tryd.prog 36 #[v] w fun e W' => Gives (nfcI L) w e W' := by
  obtain ⟨hPu, _, hIn⟩ := nfd_ok L
  have hnl := nfdI_len L
  obtain ⟨l, hl⟩ : ∃ l, l = ord ((L.flatMap fd).map pt) := ⟨_, rfl⟩
  have hnd : nfdI L = l.map (·.1) := by rw [hl]; rfl
  have hnc : nfcI L = (comp l).map (·.1) := by rw [hl]; rfl
  rw [← hl] at hPu hIn
  have hv2 := rnfd_any v L w hlen hv
  rw [hnd] at hv2 hnl
  rw [hnc]
  have HV := hid hv2
  have HPU := hid hPu
  have HIN := hid hIn
  obtain ⟨N, hN⟩ : ∃ N, l.length = N := ⟨_, rfl⟩
  have hN3 : N ≤ 30000 := by rw [List.length_map] at hnl; omega
  have HN := hid hN
  clear hv hv2 hPu hIn hnl hl hnd hnc hN
  go_enter Tryd.func36, Tryd.ntmps36
  go_wp2_with fail
  refine HV.out.mono ?_
  rintro e W1 ⟨v1, rfl, r1, B1⟩
  rw [List.length_map, HN.out] at r1
  have R1 := hid r1
  have HB1 := hid B1
  clear r1 B1 HV
  go_wp2_with fail
  go_loopw [3, 4] (fun v3 v4 wr => ∃ (k m i : Nat) (t : TS), v4 = .int .i64 i ∧ m ≤ 30000 ∧ 1 ≤ i ∧ Hid (St l N k m i t) ∧ Hid (wr.ownsRow w.heap.size 21 1 v3 m ((zof t (l.drop k)).map (Value.int .i32))) ∧ Hid (Below w.heap.size w wr)) (fun v3 v4 _ => lenOf v3 - (intOf v4).toNat)
  case atStart =>
    obtain ⟨k, t, h1, h2⟩ := St.first l N HN.out
    exact ⟨k, N, 1, t, rfl, hN3, Nat.le_refl _, h1, by show World.ownsRow _ _ _ _ _ _ _; rw [h2]; exact R1.out, HB1.out⟩
  case round =>
    obtain ⟨k, m, i, t, rfl, hm, hi1, HS, HR, HB⟩ := hrel
    obtain ⟨a, cap, rfl⟩ := own_sh HR.out
    clear R1 HB1
    obtain ⟨W2, rfl⟩ : ∃ W2, W2 = wr := ⟨_, rfl⟩
    by_cases hlt : i < m
    · obtain ⟨hil, hkN, hdr, hmi⟩ := HS.out.here HN.out hlt
      have hzl := zof_len HS.out HN.out
      obtain ⟨g, c', e, hg, hcell⟩ := own_get HR.out hzl.symm (by omega)
      cases e
      have hrd := round_of HPU.out HIN.out HS.out.2.1 (l[k]?.getD z2) (l.drop (k + 1))
      have hcm : l[k]?.getD z2 ∈ l := by
        have hkl : k < l.length := by rw [HN.out]; exact hkN
        rw [List.getElem?_eq_getElem hkl]; exact List.getElem_mem hkl
      have hpc : cl (l[k]?.getD z2).1 = (l[k]?.getD z2).2 := (congrArg Prod.snd (HPU.out _ hcm)).symm
      rw [hdr] at hcell hzl HR
      obtain ⟨c, hc⟩ : ∃ c, l[k]?.getD z2 = c := ⟨_, rfl⟩
      rw [hc] at hrd hpc hcell hzl HR
      have hZi := zof_here t c (l.drop (k + 1))
      rw [← hil] at hZi hrd
      have HCC := hid hc
      obtain ⟨tl, htl⟩ : ∃ tl, tlast t = tl := ⟨_, rfl⟩
      obtain ⟨rc, hrc⟩ : ∃ rc, reach t c = rc := ⟨_, rfl⟩
      rw [htl, hrc] at hrd
      obtain ⟨Z, hZ⟩ : ∃ Z, zof t (c :: l.drop (k + 1)) = Z := ⟨_, rfl⟩
      rw [hZ] at hrd hcell hzl HR hZi
      have HZ := hid hZ
      have HRC := hid hrc
      have HTL := hid htl
      have HRD := hid hrd
      have HCELL := hid hcell
      have HZL := hid hzl
      have HPC := hid hpc
      have hlo := hrd.lo
      have hhi := hrd.hi
      have ci := hcell i hlt
      rw [hZi] at ci
      have CI := hid ci
      have hltz : (i : Int) < (m : Int) := by omega
      have HG := hid hg
      -- c goes behind all
      have HAPP : Hid (tstep t c = app t c → St l N (k + 1) m (i + 1) (app t c) ∧ zof (app t c) (l.drop (k + 1)) = Z) := fun h => by
        rw [← HZ.out]; exact HS.out.app HN.out hlt HCC.out h
      have HNO : Hid (rc = false → tstep t c = app t c) := fun h => tstep_app0 (by rw [HRC.out, h])
      clear hmi hil hdr hzl hcell hrd hcm hpc hc hZi htl hrc hZ ci hg
      go_wp2_with fail
      go_loopw [5] (fun v5 wq => ∃ s : Int, v5 = .int .i64 s ∧ tl ≤ s ∧ s < i ∧ Hid (Below W2.heap.size W2 wq)) (fun v5 _ => (intOf v5 + 1).toNat)
      case atStart => exact ⟨(i : Int) - 1, by go_num, by omega, by omega, Below.refl _ _⟩
      case round =>
        obtain ⟨s, rfl, hs1, hs2, HBQ⟩ := hrel
        obtain ⟨W3, rfl⟩ : ∃ W3, W3 = wr := ⟨_, rfl⟩
        by_cases hsn : s < 0
        · obtain rfl : s = -1 := by omega
          have htl1 : tl = -1 := by omega
          have hrf := HRD.out.none htl1
          have hap := HAPP.out (HNO.out hrf)
          have HAP := hid hap
          have HRQ := hid (ownsRow_below HR.out HBQ.out (Nat.le_refl _))
          have HBW := hid (HB.out.trans (HBQ.out.mono HB.out.size))
          have hneg : ¬ (0 : Int) ≤ -1 := by omega
          have hi0 : (0 : Int) < (i : Int) := by omega
          clear hap hrf htl1 hsn
          go_wp2_with fail
          refine wp_loop_rounds 1 ?_
          rw [rounds_succ]
          go_wp2
          go_roundw
          case rel => exact ⟨k + 1, m, i + 1, app t c, by go_num, hm, by omega, HAP.out.1, by show World.ownsRow _ _ _ _ _ _ _; rw [HAP.out.2]; exact HRQ.out, HBW.out⟩
          case measure => simp [intOf, lenOf]; omega
        · obtain ⟨sn, rfl⟩ : ∃ sn : Nat, s = (sn : Int) := ⟨s.toNat, by omega⟩
          have hsm : (sn : Int) < (m : Int) := by omega
          have hsnn : sn < m := by omega
          have d0 : W3.cell? ⟨g, sn, none⟩ = some (.int .i32 (Z[sn]?.getD 0)) := (HBQ.out.cell (p := ⟨g, sn, none⟩) HG.out).trans (HCELL.out sn hsnn)
          obtain ⟨x, hx⟩ : ∃ x, Z[sn]?.getD 0 = x := ⟨_, rfl⟩
          rw [hx] at d0
          have HXE := hid hx
          have hcall := rclass_any x
          obtain ⟨cx, hcx⟩ : ∃ cx, cl x = cx := ⟨_, rfl⟩
          rw [hcx] at hcall
          have HCALL := hid hcall
          have HKX := hid hcx
          clear hx hcall hcx
          by_cases hst : (sn : Int) = tl
          · have hx0 : cx = 0 := by
              rcases HRD.out.zero with h | h
              · omega
              · rw [← HKX.out, ← HXE.out]; have := h.2; rw [← hst, Int.toNat_natCast] at this; exact this
            have hb1 : (cx != 0) = false := by simpa using hx0
            have hb2 : (cx == 0) = true := by simpa using hx0
            have hpos : (0 : Int) ≤ (sn : Int) := by omega
            have hnl : ¬ (sn : Int) < 0 := by omega
            obtain rfl : tl = (sn : Int) := hst.symm
            clear hx0 hst
            go_wp2_with fail
            refine (HCALL.out _).mono ?_
            rintro e W4 ⟨rfl, B4⟩
            have HB4 := hid (HBQ.out.trans (B4.mono HBQ.out.size))
            clear B4 d0 HBQ HCALL
            go_wp2_with fail
            go_loopw [6, 7] (fun v6 v7 wq => ∃ (bl : Bool) (q : Nat), v6 = .bool bl ∧ v7 = .int .i64 q ∧ sn < q ∧ q ≤ i ∧ Hid (bl = true → rc = false) ∧ Hid (bl = false → ∀ j : Nat, (sn : Int) < j → j < q → cl (Z[j]?.getD 0) < c.2) ∧ Hid (Below W2.heap.size W2 wq)) (fun _ v7 _ => i - (intOf v7).toNat)
            case atStart => exact ⟨false, sn + 1, rfl, by go_num, by omega, by omega, (fun h => by cases h), (fun _ j h1 h2 => by omega), HB4.out⟩
            case round =>
              obtain ⟨bl, q, rfl, rfl, hq1, hq2, HT, HF, HB5⟩ := hrel
              obtain ⟨W5, rfl⟩ : ∃ W5, W5 = wr := ⟨_, rfl⟩
              cases bl with
              | true =>
                have HAP := hid (HAPP.out (HNO.out (HT.out rfl)))
                have HRQ := hid (ownsRow_below HR.out HB5.out (Nat.le_refl _))
                have HBW := hid (HB.out.trans (HB5.out.mono HB.out.size))
                clear HT HF HAPP HNO
                by_cases hqi : q < i
                · have hqz : (q : Int) < (i : Int) := by omega
                  go_wp2
                  go_roundw
                  case rel => exact ⟨k + 1, m, i + 1, app t c, by go_num, hm, by omega, HAP.out.1, by show World.ownsRow _ _ _ _ _ _ _; rw [HAP.out.2]; exact HRQ.out, HBW.out⟩
                  case measure => simp [intOf, lenOf]; omega
                · have hqz : ¬ (q : Int) < (i : Int) := by omega
                  go_wp2
                  go_roundw
                  case rel => exact ⟨k + 1, m, i + 1, app t c, by go_num, hm, by omega, HAP.out.1, by show World.ownsRow _ _ _ _ _ _ _; rw [HAP.out.2]; exact HRQ.out, HBW.out⟩
                  case measure => simp [intOf, lenOf]; omega
              | false =>
                clear HT
                have HF2 := hid (HF.out rfl)
                clear HF
                by_cases hqi : q < i
                · have hqz : (q : Int) < (i : Int) := by omega
                  have hqm : (q : Int) < (m : Int) := by omega
                  have hqm2 : q < m := by omega
                  obtain ⟨y, hy⟩ : ∃ y, Z[q]?.getD 0 = y := ⟨_, rfl⟩
                  have hcq := HCELL.out q hqm2
                  rw [hy] at hcq
                  have hg5 : g < W5.heap.size := Nat.lt_of_lt_of_le HG.out HB5.out.size
                  have d1 : ∀ u : Later W5, u.W.cell? ⟨g, q, none⟩ = some (.int .i32 y) := fun u => (u.h.cell (p := ⟨g, q, none⟩) hg5).trans ((HB5.out.cell (p := ⟨g, q, none⟩) HG.out).trans hcq)
                  have d2 : ∀ u : Later W5, u.W.cell? ⟨g, i, none⟩ = some (.int .i32 c.1) := fun u => (u.h.cell (p := ⟨g, i, none⟩) hg5).trans ((HB5.out.cell (p := ⟨g, i, none⟩) HG.out).trans CI.out)
                  have hne : Nonempty (Later W5) := ⟨⟨W5, Below.refl _ _⟩⟩
                  have hc1 := rclass_any y
                  have hc2 := rclass_any c.1
                  rw [HPC.out] at hc2
                  have hy0 : cl y ≠ 0 := by rw [← hy]; exact HRD.out.marks q (by omega) hqi
                  obtain ⟨cy, hcy⟩ : ∃ cy, cl y = cy := ⟨_, rfl⟩
                  rw [hcy] at hc1 hy0
                  have HY := hid hy
                  have HCY := hid hcy
                  have HC1 := hid hc1
                  have HC2 := hid hc2
                  have hyb : (cy == 0) = false := by simpa using hy0
                  clear hy hcq hg5 hc1 hc2 hcy hy0
                  go_wp2_with fail
                  refine wp_region_quiet_in (by kernel_rfl) (by kernel_rfl) ?_
                  repeat (go_big_quiet_step ((go_at_call 53; first | exact Later.call _ (HC1.out _) | exact Later.call _ (HC2.out _))))
                  refine wpQuiet_nil ?_
                  rintro _ ⟨z, rfl⟩
                  have HBZ := hid (HB5.out.trans (z.h.mono HB5.out.size))
                  clear d1 d2 hne HC1 HC2 HB5
                  generalize z.W = wz at HBZ ⊢
                  go_wp2
                  go_roundw
                  case rel => exact ⟨decide (c.2 ≤ cy), q + 1, rfl, by go_num, by omega, by omega, (fun h => HRD.out.stop q (by omega) hqi (by rw [HY.out, HCY.out]; have := of_decide_eq_true h; omega)), (fun h j h1 h2 => by
                    by_cases hjq : j = q
                    · subst hjq; rw [HY.out, HCY.out]; have := of_decide_eq_false h; omega
                    · exact HF2.out j h1 (by omega)), HBZ.out⟩
                  case measure => simp [intOf]; omega
                · have hqz : ¬ (q : Int) < (i : Int) := by omega
                  have hrt : rc = true := HRD.out.go (by omega) (fun j h1 h2 => HF2.out j h1 (by omega))
                  obtain ⟨_ | ⟨A, p⟩, B⟩ := t
                  · have := HTL.out; simp [tlast] at this
                  · have hA : A.length = sn := by have := HTL.out; simp [tlast] at this; omega
                    have hxp : Z[sn]?.getD 0 = p.1 := by rw [← HZ.out, ← hA]; simp [zof, tout]
                    have hpair := D.rpair_any p.1 c.1
                    rw [D.ptab_prs, show D.prf D.prs p.1 c.1 = pr p.1 c.1 from rfl] at hpair
                    obtain ⟨⟨y, is⟩, hy⟩ : ∃ y, pr p.1 c.1 = y := ⟨_, rfl⟩
                    rw [hy] at hpair
                    dsimp only at hpair
                    have HQ := hid hy
                    have HPAIR := hid hpair
                    have HRT := hid hrt
                    have HA := hid hA
                    have hg5 : g < W5.heap.size := Nat.lt_of_lt_of_le HG.out HB5.out.size
                    have hcq := HCELL.out sn hsnn
                    rw [hxp] at hcq
                    have d1 : ∀ u : Later W5, u.W.cell? ⟨g, sn, none⟩ = some (.int .i32 p.1) := fun u => (u.h.cell (p := ⟨g, sn, none⟩) hg5).trans ((HB5.out.cell (p := ⟨g, sn, none⟩) HG.out).trans hcq)
                    have d2 : ∀ u : Later W5, u.W.cell? ⟨g, i, none⟩ = some (.int .i32 c.1) := fun u => (u.h.cell (p := ⟨g, i, none⟩) hg5).trans ((HB5.out.cell (p := ⟨g, i, none⟩) HG.out).trans CI.out)
                    have hne : Nonempty (Later W5) := ⟨⟨W5, Below.refl _ _⟩⟩
                    clear hpair hy hrt hA hxp hg5 hcq
                    go_wp2_with fail
                    refine wp_region_quiet_in (by kernel_rfl) (by kernel_rfl) ?_
                    repeat (go_big_quiet_step ((go_at_call 54; exact Later.call _ (HPAIR.out _))))
                    refine wpQuiet_nil ?_
                    rintro _ ⟨z, rfl⟩
                    have HBZ := hid (HB5.out.trans (z.h.mono HB5.out.size))
                    have sy := d1 z
                    clear d1 d2 hne HPAIR HB5
                    generalize z.W = wz at HBZ sy ⊢
                    have HRQ := hid (ownsRow_below HR.out HBZ.out (Nat.le_refl _))
                    have HBW := hid (HB.out.trans (HBZ.out.mono HB.out.size))
                    cases is with
                    | false =>
                      have HAP := hid (HAPP.out (tstep_app1 (by rw [HQ.out])))
                      clear HAPP HNO
                      go_wp2
                      go_roundw
                      case rel => exact ⟨k + 1, m, i + 1, app (some (A, p), B) c, by go_num, hm, by omega, HAP.out.1, by show World.ownsRow _ _ _ _ _ _ _; rw [HAP.out.2]; exact HRQ.out, HBW.out⟩
                      case measure => simp [intOf, lenOf]; omega
                    | true =>
                      have hpst := HS.out.pair HN.out hlt HCC.out (by rw [HRC.out, HRT.out]) HQ.out
                      rw [HZ.out, HA.out] at hpst
                      have HPST := hid hpst
                      have fy : wz.frozen? ⟨g, sn, none⟩ = false := by
                        rcases HRQ.out.2 with ⟨h, _⟩ | ⟨g', cap', cur, h, _, hg, _⟩
                        · cases h
                        · cases h; simp [World.frozen?, hg]
                      have hgw : w.heap.size ≤ g := (HRQ.out.lt g rfl).1
                      have st1 := (HRQ.out.stored sn (.int .i32 y)).1
                      rw [← List.map_set] at st1
                      obtain ⟨vl, vr, hs1, hs2, sl, sr⟩ := cut_any (i := i) st1 (by rw [List.length_set]; exact HZL.out) hlt (by omega)
                      have HBS := hid (HBW.out.setCell (p := ⟨g, sn, none⟩) hgw (.int .i32 y))
                      have hws : (wz.setCell ⟨g, sn, none⟩ (.int .i32 y)).heap.size = wz.heap.size := by simp [World.setCell]
                      have HWS := hid hws
                      obtain ⟨Y, hY⟩ : ∃ Y, Z.set sn y = Y := ⟨_, rfl⟩
                      rw [hY] at sl sr HPST
                      have hYl : Y.length = m := by rw [← hY, List.length_set]; exact HZL.out
                      have hl1 : (Y.take i).length = i := by rw [List.length_take]; omega
                      have hl2 : (Y.drop (i + 1)).length = m - (i + 1) := by rw [List.length_drop]; omega
                      have HL1 := hid hl1
                      have HL2 := hid hl2
                      have SL := hid sl
                      have SR := hid sr
                      have hwp : IntKind.i64.wrap ((i : Int) + 1) = (i : Int) + 1 := by rw [IntKind.wrap_i64]; omega
                      clear hpst hgw st1 sl sr hws hYl hl1 hl2 hY HAPP HNO HRQ HBW
                      have hz7 : ∀ W7, World.grownBy (wz.setCell ⟨g, sn, none⟩ (.int .i32 y)) W7 (Value.slice none 0 0).ownBlock → U.SrcInts W7 vr (Y.drop (i + 1)) ∧ wz.heap.size ≤ W7.heap.size ∧ Below w.heap.size w W7 := fun W7 g7 => by
                        have b7 : Below wz.heap.size (wz.setCell ⟨g, sn, none⟩ (.int .i32 y)) W7 := (Below.refl _ _).grown g7 (by rw [HWS.out]; exact Nat.le_refl _) (fun k e => by simp [Value.ownBlock] at e)
                        refine ⟨U.SrcInts.below b7 (by rw [HWS.out]; exact Nat.le_refl _) SR.out, ?_, HBS.out.trans (b7.mono (by have := HBS.out.size; rw [HWS.out] at this; exact this))⟩
                        have := b7.size; rw [HWS.out] at this; exact this
                      have HZ7 := hid hz7
                      clear hz7
                      go_wp2_with ((at_builtin; first | (refine U.wpList_append_ints rfl _ _ rfl wz.heap.size (.slice none 0 0) 0 [] rfl (World.ownsRow_nil _ _ _ _) _ (Y.take i) rfl SL.out (by have := HL1.out; omega) (by rw [HWS.out]; exact Nat.le_refl _) ?_; intro v7 W7 r7 g7; have R7 := hid r7; have H7 := hid (HZ7.out W7 g7); clear r7 g7) | (refine U.wpList_append_ints rfl _ _ rfl _ _ _ ([] ++ Y.take i) rfl R7.out _ (Y.drop (i + 1)) rfl H7.out.1 (by have := HL1.out; have := HL2.out; omega) H7.out.2.1 ?_; intro v8 W8 r8 g8)))
                      have hsz : wz.heap.size ≤ W7.heap.size := H7.out.2.1
                      have hws2 : w.heap.size ≤ wz.heap.size := Nat.le_trans HB.out.size HBZ.out.size
                      have HB8 : Hid (Below w.heap.size w W8) := H7.out.2.2.grown g8 (by omega) (fun k e => Nat.le_trans hws2 (R7.out.lt k e).1)
                      have e8 : 0 + (Y.take i).length + (Y.drop (i + 1)).length = m - 1 := by rw [HL1.out, HL2.out]; omega
                      rw [e8, List.nil_append, ← HPST.out.2] at r8
                      have R8 := hid (own_base r8 hws2)
                      obtain ⟨a8, c8, rfl⟩ := own_sh r8
                      clear r8 g8 e8 hsz hws2 R7 H7
                      go_wp2
                      go_roundw
                      case rel => exact ⟨k + 1, m - 1, i, (some (A, (y, p.2)), B), rfl, by omega, hi1, HPST.out.1, R8.out, HB8.out⟩
                      case measure => simp [intOf, lenOf]; omega
          · have hx0 : cx ≠ 0 := by
              rw [← HKX.out, ← HXE.out]
              exact HRD.out.marks sn (by omega) (by omega)
            have hb1 : (cx != 0) = true := by simpa using hx0
            have hb2 : (cx == 0) = false := by simpa using hx0
            have hpos : (0 : Int) ≤ (sn : Int) := by omega
            clear hx0
            go_wp2_with fail
            refine (HCALL.out _).mono ?_
            rintro e W4 ⟨rfl, B4⟩
            have HB4 := hid (HBQ.out.trans (B4.mono HBQ.out.size))
            clear B4 d0
            go_wp2
            go_roundw
            case rel => exact ⟨(sn : Int) - 1, by go_num, by omega, by omega, HB4.out⟩
            case measure => simp [intOf]
    · have hltz : ¬ (i : Int) < (m : Int) := by omega
      have h2 := HS.out.end HN.out hlt
      have HE := hid h2
      clear h2
      go_wp2
      go_ret
      refine gives_own (n := m) HE.out.2 HB.out ?_
      have := HR.out
      rw [HE.out.1] at this; exact this
end Go.Proofs.YtpkegjbmnilmdaaDoor.N
/- The document's own answer for a text. -/
namespace Go.Proofs.YtpkegjbmnilmdaaDoor.N
open Go.RowKit
set_option linter.unusedVariables false

theorem textR_one {s t t' : ByteArray} (h : textR s t) (h' : textR s t') : t' = t := by
  obtain ⟨r, h⟩ := h
  obtain ⟨r', h'⟩ := h'
  rcases h with ⟨h1, _, h2⟩ | ⟨h1, _, h2⟩ <;> rcases h' with ⟨h3, _, h4⟩ | ⟨h3, _, h4⟩
  · exact U.bn_inj (h4.trans h2.symm)
  · rw [h1] at h3; cases h3
  · rw [h1] at h3; cases h3
  · rw [h2, h4]

set_option maxRecDepth 100000 in
set_option maxHeartbeats 1000000 in
theorem rtext_any (s : ByteArray) (w : World) (hs : s.size ≤ 10000) : Calls Tryd.prog 19 #[.string s] w fun e W' => (∃ t, e = .returned (.string t) ∧ textR s t) ∧ Below w.heap.size w W' := by
  have hdl := U.dec_len _ _ (Nat.le_refl _) (U.bn_bytes s)
  rw [U.bn_length] at hdl
  have hdec := U.refDecode_any s (by omega) w
  have HTR : Hid (∀ t r, U.encQ (nfcI (U.dec (U.bn s))) t r → textR s t) := fun t r h => by
    rcases h with ⟨h1, _, h2⟩ | ⟨h1, _, h2⟩
    · exact ⟨0, .inl ⟨h1, rfl, h2⟩⟩
    · exact ⟨2, .inr ⟨h1, rfl, h2⟩⟩
  generalize U.dec (U.bn s) = L at hdl hdec HTR
  have HD := hid hdec
  have hl1 := nfcI_len L
  have hl2 := nfdI_len L
  clear hdec
  go_enter Tryd.func19, Tryd.ntmps19
  go_wp2_with fail
  refine (show Calls _ _ _ _ _ from HD.out).mono ?_
  rintro e w1 ⟨v1, rfl, hr1, hB1⟩
  have hc := rnfc_any v1 L w1 (by omega) (U.IntsAt.own rfl hr1)
  have HC := hid hc
  have HB1 := hid hB1
  clear hc hr1 hB1
  go_wp2_with fail
  refine (show Calls _ _ _ _ _ from HC.out).mono ?_
  rintro e w2 ⟨v2, rfl, hr2, hB2⟩
  have hB12 := HB1.out.trans (hB2.mono HB1.out.size)
  have he := U.refEncode_any v2 (nfcI L) (by omega) w2 (U.IntsAt.own rfl hr2)
  have HE := hid he
  have HB12 := hid hB12
  clear he hr2 hB2 hB12
  go_wp2_with fail
  refine (show Calls _ _ _ _ _ from HE.out).mono ?_
  rintro e w3 ⟨⟨t, r, rfl, ht⟩, hB3⟩
  have HT := hid (HTR.out t r ht)
  clear ht
  go_wp2
  go_ret
  exact ⟨⟨t, rfl, HT.out⟩, HB12.out.trans (hB3.mono HB12.out.size)⟩
end Go.Proofs.YtpkegjbmnilmdaaDoor.N
