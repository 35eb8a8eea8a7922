/- Texts of one layer, one behind the other: NCB NCC. -/
import Derived.Test.YtdncaehajhmcoaaGreatZN7
import Derived.Test.YtdncaehajhmcoaaGreatZU3
import Derived.Deep.Cut
import Derived.Deep.CutRange
/- The contract of together. -/
namespace Go.Proofs.YtdncaehajhmcoaaGreat.N
open Go.RowKit
set_option linter.unusedVariables false

/-- What stands ahead of the last one of class 0, that one, and the marks behind it; or marks alone. -/
abbrev TS := Option (List Pt × Pt) × List Pt
def tout : TS → List Pt
  | (none, B) => B
  | (some (A, s), B) => A ++ s :: B
def tlast : TS → Int
  | (none, _) => -1
  | (some (A, _), _) => (A.length : Nat)
/-- The pair's code point, if they are one. -/
def pr (a b : Int) : Int × Bool := D.prf D.prs a b
def tstep (t : TS) (c : Pt) : TS := match t with
  | (none, B) => if c.2 = 0 then (some (B, c), []) else (none, B ++ [c])
  | (some (A, s), B) => if rch B c = true ∧ (pr s.1 c.1).2 = true then (some (A, ((pr s.1 c.1).1, s.2)), B) else if c.2 = 0 then (some (A ++ s :: B, c), []) else (some (A, s), B ++ [c])
def tst (l : List Pt) : TS := l.foldl tstep (none, [])
/-- Put together what is taken apart and in order. -/
def comp (l : List Pt) : List Pt := tout (tst l)
theorem tst_snoc (l : List Pt) (c : Pt) : tst (l ++ [c]) = tstep (tst l) c := by simp [tst, List.foldl_append]
theorem tst_take (l : List Pt) (k : Nat) (hk : k < l.length) : tst (l.take (k + 1)) = tstep (tst (l.take k)) (l[k]?.getD z2) := by
  rw [List.take_succ_eq_append_getElem hk, tst_snoc, List.getElem?_eq_getElem hk]; rfl
theorem tstep_len (t : TS) (c : Pt) : (tout (tstep t c)).length ≤ (tout t).length + 1 := by
  obtain ⟨_ | ⟨A, s⟩, B⟩ := t
  · unfold tstep; dsimp only; split <;> simp [tout]
  · unfold tstep; dsimp only
    split
    · simp [tout]
    · split <;> simp [tout] <;> omega
theorem tst_len (l : List Pt) : (tout (tst l)).length ≤ l.length := by
  induction l using snoc_ind with
  | h0 => simp [tst, tout]
  | h1 l c ih => rw [tst_snoc]; have := tstep_len (tst l) c; simp; omega
theorem flat2_set (A : List Pt) (s : Pt) (B : List Pt) (y : Int) : (flat2 (A ++ s :: B)).set (A.length * 2) (.int .i32 y) = flat2 (A ++ (y, s.2) :: B) := by
  have e : ∀ p : Pt, flat2 (A ++ p :: B) = flat2 A ++ ([.int .i32 p.1, .int .u8 p.2] ++ flat2 B) := fun p => by simp [flat2, c2]
  rw [e, e, List.set_append_right _ _ (by rw [flat2_len]; omega), flat2_len, Nat.sub_self]
  rfl
/-- What stands behind the last one of class 0, and whether c reaches it. -/
theorem tail_reaches {base m cap g : Nat} {A B : List Pt} {s : Pt} {W : World} (hrow : W.ownsRow base 139 2 (.slice (some ⟨g, 0, none⟩) m cap) m (flat2 (A ++ s :: B))) (hm : m ≤ 100000) (c : Pt) :
    ∃ v', (∀ W2, (Instr.slice 102 (.slice (some ⟨g, 0, none⟩) m cap) (some (.int .i64 ((A.length : Int) + 1))) none none).run Tryz.prog W2 = .ok v' W2) ∧
      ∀ x : Later W, Calls Tryz.prog 117 #[v', .agg #[.int .i32 c.1, .int .u8 c.2]] x.W fun e W' => e = .returned (.bool (rch B c)) ∧ Below x.W.heap.size x.W W' := by
  have hl : A.length + 1 + B.length = m := by have := hrow.1; rw [flat2_len] at this; simp at this; omega
  have hmc : m ≤ cap := by
    rcases hrow.2 with ⟨h, _⟩ | ⟨g', cap', cur, h, _, _, hnc, _⟩
    · cases h
    · cases h; exact hnc
  have hp : Pts W g ((A.length + 1) * 2) B := by
    have := ownsRow_pts (O := A ++ [s]) (S := B) (by simpa using hrow)
    simpa using this
  refine ⟨.slice (if cap = A.length + 1 then some ⟨g, 0, none⟩ else some ⟨g, (A.length + 1) * 2, none⟩) B.length (cap - (A.length + 1)), fun W2 => ?_, fun x => ?_⟩
  · rw [run_slice_l W2 102 (some ⟨g, 0, none⟩) m cap (by kernel_rfl) .i64 ((A.length : Int) + 1) (by omega) (by omega), Tryz.sizeOf139' W2]
    have e1 : ((A.length : Int) + 1).toNat = A.length + 1 := by omega
    have e2 : m - (A.length + 1) = B.length := by omega
    simp only [Result.andThen, sliced, e1, e2]
    split <;> simp [Addr.add]
  · cases hB : B.getLast? with
    | none =>
      have hB0 : B = [] := by simpa using hB
      subst hB0
      refine (reaches_none _ _ c x.W).mono ?_
      rintro e W' ⟨rfl, h⟩
      exact ⟨rfl, h⟩
    | some b =>
      have hbb : B = B.dropLast ++ [b] := by
        have hne : B ≠ [] := fun h => by rw [h] at hB; cases hB
        have := List.dropLast_concat_getLast hne
        rw [List.getLast?_eq_some_getLast hne] at hB
        cases hB; exact this.symm
      have hlen : B.length = B.dropLast.length + 1 := by
        have := congrArg List.length hbb
        simpa using this
      rw [if_neg (by omega), hlen]
      have hpx : Pts x.W g ((A.length + 1) * 2) (B.dropLast ++ [b]) := by rw [← hbb]; exact hp.below x.h hp.lt
      refine (reaches_some g _ _ _ B.dropLast b c x.W rfl (by omega) hpx).mono ?_
      rintro e W' ⟨rfl, h⟩
      exact ⟨by unfold rch; rw [hB], h⟩
theorem own_some {base m : Nat} {v : Value} {X : List Value} {W : World} (h : W.ownsRow base 139 2 v m X) (hm : 0 < m) : ∃ g cap, v = .slice (some ⟨g, 0, none⟩) m cap := by
  rcases h.2 with ⟨rfl, h0⟩ | ⟨g, cap, cur, rfl, _⟩
  · omega
  · exact ⟨g, cap, rfl⟩

/-- Whether c reaches the last one of class 0. -/
def reach (t : TS) (c : Pt) : Bool := match t with
  | (none, _) => false
  | (some _, B) => rch B c
/-- c goes behind all. -/
def app (t : TS) (c : Pt) : TS := if c.2 = 0 then (some (tout t, c), []) else (t.1, t.2 ++ [c])
theorem app_out (t : TS) (c : Pt) : tout (app t c) = tout t ++ [c] := by
  obtain ⟨_ | ⟨A, s⟩, B⟩ := t <;> unfold app <;> split <;> simp [tout]
theorem app_last0 (t : TS) (c : Pt) (h : c.2 = 0) : tlast (app t c) = ((tout t).length : Nat) := by unfold app; rw [if_pos h]; rfl
theorem app_last1 (t : TS) (c : Pt) (h : ¬ c.2 = 0) : tlast (app t c) = tlast t := by
  obtain ⟨_ | ⟨A, s⟩, B⟩ := t <;> unfold app <;> rw [if_neg h] <;> rfl
theorem tstep_app0 {t : TS} {c : Pt} (h : reach t c = false) : tstep t c = app t c := by
  obtain ⟨_ | ⟨A, s⟩, B⟩ := t
  · unfold tstep app; rfl
  · have hr : rch B c = false := h
    unfold tstep app
    dsimp only
    rw [if_neg (by rw [hr]; simp)]
    rfl
theorem tstep_app1 {A : List Pt} {s : Pt} {B : List Pt} {c : Pt} (h : (pr s.1 c.1).2 = false) : tstep (some (A, s), B) c = app (some (A, s), B) c := by
  unfold tstep app
  dsimp only
  rw [if_neg (by rw [h]; simp)]
  rfl
theorem tstep_pair {A : List Pt} {s : Pt} {B : List Pt} {c : Pt} {q : Int} (h : reach (some (A, s), B) c = true) (hq : pr s.1 c.1 = (q, true)) : tstep (some (A, s), B) c = (some (A, (q, s.2)), B) := by
  have hr : rch B c = true := h
  unfold tstep
  dsimp only
  rw [if_pos ⟨hr, by rw [hq]⟩, hq]

set_option maxRecDepth 100000 in
set_option maxHeartbeats 4000000 in
theorem together_any (v : Value) (l : List Pt) (w : World) (hlen : l.length ≤ 50000) (hr : RowP w v l) :
    Calls Tryz.prog 80 #[v] w fun e W' => ∃ v', e = .returned v' ∧ W'.ownsRow w.heap.size 139 2 v' (comp l).length (flat2 (comp l)) ∧ Below w.heap.size w W' := by
  obtain ⟨a, cap0, rfl, hf⟩ := hr
  obtain ⟨i0, hi, hz0, hz1, hz2⟩ := info_parts Tryz.info139
  obtain ⟨n, hn⟩ : ∃ n, l.length = n := ⟨_, rfl⟩
  have HF := hid hf
  rw [hn] at hlen ⊢
  have HN := hid hn
  clear hf hn
  go_enter Tryz.func80, Tryz.ntmps80
  go_wp2_with fail
  go_loopw [3, 4, 11] (fun v3 v4 i wr => ∃ (k : Nat) (t : TS), k ≤ n ∧ i = .int .i64 k ∧ v4 = .int .i64 (tlast t) ∧ wr.ownsRow w.heap.size 139 2 v3 (tout t).length (flat2 (tout t)) ∧ (tout t).length ≤ k ∧ Hid (t = tst (l.take k)) ∧ Below w.heap.size w wr) (fun _ _ i _ => n - (intOf i).toNat)
  case atStart => exact ⟨0, (none, []), Nat.zero_le _, rfl, rfl, World.ownsRow_nil _ _ _ _, Nat.le_refl _, rfl, Below.refl _ _⟩
  case round =>
    obtain ⟨k, t, hk, rfl, rfl, hrow, htl, HT, hB⟩ := hrel
    by_cases hlt : k < n
    · obtain ⟨g0, rfl, hp⟩ := HF.out (by have := HN.out; omega)
      have hp' := hp.below hB hp.lt
      have hkl : k < l.length := by have := HN.out; omega
      have e0 := hp'.c0 k hkl
      have e1 := hp'.c1 k hkl
      have HT2 : Hid (tst (l.take (k + 1)) = tstep t (l[k]?.getD z2)) := by show _ = _; rw [tst_take l k hkl, HT.out]
      obtain ⟨c, hce⟩ : ∃ c, l[k]?.getD z2 = c := ⟨_, rfl⟩
      rw [hce] at e0 e1 HT2
      simp only [Nat.zero_add] at e0 e1
      have hltz : (k : Int) < (n : Int) := by omega
      have hBs := hB.size
      obtain ⟨wa, hwa⟩ : ∃ wa, wa = wr.alloc (.cells #[.int .i32 c.1, .int .u8 c.2] 139) := ⟨_, rfl⟩
      have hBa : Below w.heap.size w wa := by rw [hwa]; exact hB.alloc hB.size _
      have hPa : wa.heap[wr.heap.size]? = some (.cells #[.int .i32 c.1, .int .u8 c.2] 139 (0, 0)) := by rw [hwa]; exact heap_alloc_last wr _
      have hra : wa.ownsRow w.heap.size 139 2 u3 (tout t).length (flat2 (tout t)) := by rw [hwa]; exact hrow.alloc _
      have hsa : wa.heap.size = wr.heap.size + 1 := by rw [hwa]; simp
      clear hp hp' hce hrow hB
      have HRA := hid hra
      have HPA := hid hPa
      have HBA := hid hBa
      have HWA := hid hwa
      have hPlt : wr.heap.size < wa.heap.size := by omega
      clear hra hPa hBa
      obtain ⟨tl, htl4⟩ : ∃ tl, tlast t = tl := ⟨_, rfl⟩
      obtain ⟨m, hm⟩ : ∃ m, (tout t).length = m := ⟨_, rfl⟩
      rw [htl4]
      rw [hm] at htl
      have HTL := hid htl4
      have HM := hid hm
      rw [hm] at HRA
      clear htl4 hm
      go_wp2_with fail
      rw [← hwa]
      clear hwa hsa e0 e1
      go_cut [11, 24] from 11 to 51 (fun v11 v24 wc => v11 = .int .i64 k ∧ v24 = .bool (reach t c) ∧ Hid (Below wa.heap.size wa wc))
      case first =>
        obtain ⟨_ | ⟨A, s⟩, B⟩ := t
        · obtain rfl : tl = -1 := HTL.out.symm
          have hg1 : ¬ (0 : Int) ≤ -1 := by omega
          go_region
          go_wp2
          go_meet
          case rel => exact ⟨rfl, rfl, (Below.refl _ wa).drew⟩
        · obtain ⟨la, hla⟩ : ∃ la, A.length = la := ⟨_, rfl⟩
          obtain rfl : tl = (la : Int) := by rw [← hla]; exact HTL.out.symm
          have hmA : la + 1 + B.length = m := by have := HM.out; simp [tout] at this; omega
          have hra : wa.ownsRow w.heap.size 139 2 u3 m (flat2 (A ++ s :: B)) := HRA.out
          obtain ⟨g, cap, rfl⟩ := own_some hra (by omega)
          obtain ⟨v', hsl, hreach⟩ := tail_reaches hra (by omega) c
          rw [hla] at hsl
          have hlam : la ≤ 50000 := by omega
          have HMA := hid hmA
          have HRE := hid hreach
          have hre : reach (some (A, s), B) c = rch B c := rfl
          have HRR := hid hre
          have x0 : ∀ u : Later wa, u.W.cell? ⟨wr.heap.size, 0, none⟩ = some (.int .i32 c.1) := fun u => by
            rw [u.h.cell (p := ⟨wr.heap.size, 0, none⟩) hPlt]; simp [World.cell?, HPA.out]
          have x1 : ∀ u : Later wa, u.W.cell? ⟨wr.heap.size, 1, none⟩ = some (.int .u8 c.2) := fun u => by
            rw [u.h.cell (p := ⟨wr.heap.size, 1, none⟩) hPlt]; simp [World.cell?, HPA.out]
          have hne : Nonempty (Later wa) := ⟨⟨wa, Below.refl _ _⟩⟩
          have hg1 : (0 : Int) ≤ (la : Int) := by omega
          clear hreach hra hre hmA hla
          generalize rch B c = rc at HRE HRR
          refine wp_region_quiet_in (by kernel_rfl) (by kernel_rfl) ?_
          repeat (go_big_quiet_step ((go_at_call 117; exact Later.call _ (HRE.out _))))
          refine wpQuiet_nil ?_
          rintro _ ⟨u, rfl⟩
          have hu := hid u.h
          clear x0 x1 hne hsl HRE
          generalize u.W = wu at hu ⊢
          go_wp2
          go_meet
          case rel => exact ⟨rfl, by rw [HRR.out], hu⟩
      case rest =>
        obtain ⟨rfl, rfl, hBc⟩ := hcut
        obtain ⟨rb, hrb⟩ : ∃ rb, reach t c = rb := ⟨_, rfl⟩
        rw [hrb]
        have HRB := hid hrb
        clear hrb
        go_upto_if 24 with fail
        go_cut [11] from 11 to 51 (fun v11 wd => v11 = .int .i64 k ∧ Hid (Below wa.heap.size wa wd) ∧ Hid (tstep t c = app t c))
        case first =>
          cases rb with
          | false =>
            go_wp2
            go_meet
            case rel => exact ⟨rfl, hBc, tstep_app0 HRB.out⟩
          | true =>
            obtain ⟨_ | ⟨A, s⟩, B⟩ := t
            · exact absurd HRB.out (by simp [reach])
            · obtain ⟨la, hla⟩ : ∃ la, A.length = la := ⟨_, rfl⟩
              obtain rfl : tl = (la : Int) := by rw [← hla]; exact HTL.out.symm
              have hmA : la + 1 + B.length = m := by have := HM.out; simp [tout] at this; omega
              have hra : wa.ownsRow w.heap.size 139 2 u3 m (flat2 (A ++ s :: B)) := HRA.out
              obtain ⟨g, cap, rfl⟩ := own_some hra (by omega)
              have hrc := ownsRow_below hra hBc.out (Nat.le_refl _)
              have hpA : Pts wc g 0 (A ++ s :: B) := by
                have := ownsRow_pts (O := []) (S := A ++ s :: B) (by simpa using hrc)
                simpa using this
              have s0 := hpA.c0 la (by simp; omega)
              rw [get_mid _ _ _ _ hla] at s0
              simp only [Nat.zero_add] at s0
              have hglt := hpA.lt
              have hAm : (la : Int) < (m : Int) := by omega
              have HLA := hid hla
              have HMA := hid hmA
              have hlm : la < m := by omega
              have hg1 : (0 : Int) ≤ (la : Int) := by omega
              have hwc := hBc.out.size
              have y0 : ∀ z : Later wc, z.W.cell? ⟨wr.heap.size, 0, none⟩ = some (.int .i32 c.1) := fun z => by
                rw [z.h.cell (p := ⟨wr.heap.size, 0, none⟩) (by show wr.heap.size < _; omega), hBc.out.cell (p := ⟨wr.heap.size, 0, none⟩) hPlt]; simp [World.cell?, HPA.out]
              have y1 : ∀ z : Later wc, z.W.cell? ⟨g, la * 2, none⟩ = some (.int .i32 s.1) := fun z => (z.h.cell (p := ⟨g, la * 2, none⟩) hglt).trans s0
              have hne2 : Nonempty (Later wc) := ⟨⟨wc, Below.refl _ _⟩⟩
              have hpair := D.pair_any s.1 c.1
              have hprr : D.prf D.prs s.1 c.1 = pr s.1 c.1 := rfl
              rw [hprr] at hpair
              obtain ⟨⟨q, is⟩, hq⟩ : ∃ q, pr s.1 c.1 = q := ⟨_, rfl⟩
              rw [hq] at hpair
              dsimp only at hpair
              have HQ := hid hq
              have HPAIR := hid hpair
              have HRC := hid hrc
              clear hpair hprr hq hra hpA s0 hrc hla hmA
              go_wp2_with fail
              refine wp_region_quiet_in (by kernel_rfl) (by kernel_rfl) ?_
              repeat (go_big_quiet_step ((go_at_call 118; exact Later.call _ (HPAIR.out _))))
              refine wpQuiet_nil ?_
              rintro _ ⟨z, rfl⟩
              have hz := hid (hBc.out.trans (z.h.mono hwc))
              have sy := y1 z
              have HRZ := hid (ownsRow_below HRC.out z.h (Nat.le_refl _))
              clear y0 y1 hne2 HPAIR HRC
              generalize z.W = wz at hz sy HRZ ⊢
              cases is with
              | false =>
                go_wp2
                go_meet
                case rel => exact ⟨rfl, hz, tstep_app1 (by rw [HQ.out])⟩
              | true =>
                have fy : wz.frozen? ⟨g, la * 2, none⟩ = false := by
                  rcases HRZ.out.2 with ⟨h, _⟩ | ⟨g', cap', cur, h, _, hg, _⟩
                  · cases h
                  · cases h; simp [World.frozen?, hg]
                have hst := HRZ.out.stored (la * 2) (.int .i32 q)
                have hg2 : w.heap.size ≤ g := (HRZ.out.lt g rfl).1
                have hB6 := hid ((HBA.out.trans (hz.out.mono HBA.out.size)).setCell (p := ⟨g, la * 2, none⟩) hg2 (.int .i32 q))
                have H6 : Hid ((wz.setCell ⟨g, la * 2, none⟩ (.int .i32 q)).ownsRow w.heap.size 139 2 (.slice (some ⟨g, 0, none⟩) m cap) (tout (some (A, (q, s.2)), B)).length (flat2 (tout (some (A, (q, s.2)), B)))) := by
                  have h1 := hst.1
                  rw [← HLA.out, flat2_set] at h1
                  have e1 : (tout (some (A, (q, s.2)), B)).length = m := by have := HLA.out; have := HMA.out; simp [tout]; omega
                  show World.ownsRow _ _ _ _ _ _ _
                  rw [e1, ← HLA.out]; exact h1
                have HLK : Hid ((tout (some (A, (q, s.2)), B)).length ≤ k + 1) := by show _ ≤ _; have := HLA.out; have := HMA.out; simp [tout]; omega
                clear hst
                go_wp2
                go_roundw
                case rel => exact ⟨k + 1, (some (A, (q, s.2)), B), by omega, by go_num, by show _ = Value.int .i64 ((A.length : Nat) : Int); rw [HLA.out], H6.out, HLK.out, by show _ = _; rw [HT2.out]; exact (tstep_pair HRB.out HQ.out).symm, hB6.out⟩
                case measure => simp [intOf] <;> omega
        case rest =>
          obtain ⟨rfl, hz, HAPP⟩ := hcut
          have hRy := hid (ownsRow_below HRA.out hz.out (Nat.le_refl _))
          have hPy : Hid (wc.heap[wr.heap.size]? = some (.cells #[.int .i32 c.1, .int .u8 c.2] 139 (0, 0))) := (hz.out.block _ hPlt).trans HPA.out
          have hBy := hid (HBA.out.trans (hz.out.mono HBA.out.size))
          have hSy : wr.heap.size + 1 ≤ wc.heap.size := by have := hz.out.size; omega
          have hO := hid (app_out t c)
          have p1 : wc.cell? ⟨wr.heap.size, 1, none⟩ = some (.int .u8 c.2) := by simp [World.cell?, hPy.out]
          have p0 : wc.cell? ⟨wr.heap.size, 0, none⟩ = some (.int .i32 c.1) := by simp [World.cell?, hPy.out]
          have hln := len_any hRy.out
          have hrow5 := hRy.out.alloc (.cells #[.int .i32 c.1, .int .u8 c.2] 139)
          have hnews := news2 wc (.int .i32 c.1) (.int .u8 c.2) wc.heap.size rfl
          have hbs : w.heap.size ≤ wc.heap.size := hBy.out.size
          clear hBc HRB HPA HRA HBA HWA
          by_cases hc : c.2 = 0
          · have HC0 := hid hc
            clear hc
            have hcz : (c.2 == 0) = true := by simpa using HC0.out
            have HL := hid (app_last0 t c HC0.out)
            go_wp2_with ((at_builtin; refine wpList_append_own _ rfl _ _ 102 rfl w.heap.size 139 i0 (.agg #[.int .i32 0, .int .u8 0]) 2 8 Tryz.underlying102 hi hz0 hz1 hz2 rfl (by decide) _ _ _ rfl hrow5 _ 1 1 [.int .i32 c.1, .int .u8 c.2] rfl rfl hnews (by simp [Value.oneCell']) (by unfold maxLen; omega) (by omega) (by simp; omega) ?_; intro v2 w5 hown5 hgrow5 _))
            have hB5 : Below w.heap.size w w5 := (hBy.out.alloc hBy.out.size _).grown hgrow5 (by simp; omega) (fun k e => (hrow5.lt k e).1)
            have h5 : w5.ownsRow w.heap.size 139 2 v2 (tout (app t c)).length (flat2 (tout (app t c))) := by
              rw [hO.out, show c = (c.1, c.2) from rfl, flat2_snoc]
              have e2 : (tout t ++ [(c.1, c.2)]).length = m + 1 := by rw [← HM.out]; simp
              rw [e2]; exact hown5
            have HLK : Hid ((tout (app t c)).length ≤ k + 1) := by show _ ≤ _; rw [hO.out]; have := HM.out; simp; omega
            have H5 := hid h5
            have HB5 := hid hB5
            clear hown5 hgrow5 h5 hB5 hrow5 hnews hln p0 p1
            go_wp2
            go_roundw
            case rel => exact ⟨k + 1, app t c, by omega, by go_num, by rw [HL.out, HM.out], H5.out, HLK.out, by show _ = _; rw [HT2.out]; exact HAPP.out.symm, HB5.out⟩
            case measure => simp [intOf] <;> omega
          · have HC0 := hid hc
            clear hc
            have hcz : (c.2 == 0) = false := by simpa using HC0.out
            have HL := hid (app_last1 t c HC0.out)
            go_wp2_with ((at_builtin; refine wpList_append_own _ rfl _ _ 102 rfl w.heap.size 139 i0 (.agg #[.int .i32 0, .int .u8 0]) 2 8 Tryz.underlying102 hi hz0 hz1 hz2 rfl (by decide) _ _ _ rfl hrow5 _ 1 1 [.int .i32 c.1, .int .u8 c.2] rfl rfl hnews (by simp [Value.oneCell']) (by unfold maxLen; omega) (by omega) (by simp; omega) ?_; intro v2 w5 hown5 hgrow5 _))
            have hB5 : Below w.heap.size w w5 := (hBy.out.alloc hBy.out.size _).grown hgrow5 (by simp; omega) (fun k e => (hrow5.lt k e).1)
            have h5 : w5.ownsRow w.heap.size 139 2 v2 (tout (app t c)).length (flat2 (tout (app t c))) := by
              rw [hO.out, show c = (c.1, c.2) from rfl, flat2_snoc]
              have e2 : (tout t ++ [(c.1, c.2)]).length = m + 1 := by rw [← HM.out]; simp
              rw [e2]; exact hown5
            have HLK : Hid ((tout (app t c)).length ≤ k + 1) := by show _ ≤ _; rw [hO.out]; have := HM.out; simp; omega
            have H5 := hid h5
            have HB5 := hid hB5
            clear hown5 hgrow5 h5 hB5 hrow5 hnews hln p0 p1
            go_wp2
            go_roundw
            case rel => exact ⟨k + 1, app t c, by omega, by go_num, by rw [HL.out, HTL.out], H5.out, HLK.out, by show _ = _; rw [HT2.out]; exact HAPP.out.symm, HB5.out⟩
            case measure => simp [intOf] <;> omega
    · have hltz : ¬ (k : Int) < (n : Int) := by omega
      have HE : Hid (t = tst l) := by
        show _ = _
        rw [HT.out, List.take_of_length_le (by have := HN.out; omega)]
      go_wp2
      go_ret
      refine ⟨_, rfl, ?_, hB⟩
      have h := hrow
      rw [HE.out] at h
      exact h
end Go.Proofs.YtdncaehajhmcoaaGreat.N
/- The contracts of Order, NFD, NFC, Is and Text. -/
namespace Go.Proofs.YtdncaehajhmcoaaGreat.N
open Go.RowKit
set_option linter.unusedVariables false

theorem ord_len (l : List Pt) : (ord l).length = l.length := by
  unfold ord
  rw [List.length_append, (isort_stb _).len]; exact st_len l
/-- In order; taken apart; put together. -/
def ordI (L : List Int) : List Int := (ord (L.map pt)).map (·.1)
def nfdI (L : List Int) : List Int := (ord ((L.flatMap fd).map pt)).map (·.1)
def nfcI (L : List Int) : List Int := (comp (ord ((L.flatMap fd).map pt))).map (·.1)
theorem ordI_len (L : List Int) : (ordI L).length = L.length := by unfold ordI; rw [List.length_map, ord_len, List.length_map]
theorem nfdI_len (L : List Int) : (nfdI L).length ≤ L.length * 3 := by unfold nfdI; rw [List.length_map, ord_len, List.length_map]; exact fds_len L
theorem nfcI_len (L : List Int) : (nfcI L).length ≤ (nfdI L).length := by unfold nfcI nfdI; rw [List.length_map, List.length_map]; exact tst_len _
/-- It answers these numbers, in new memory. -/
def Gives (L : List Int) (w : World) (e : Ending) (W' : World) : Prop := ∃ v, e = .returned v ∧ W'.ownsRow w.heap.size 21 1 v L.length (L.map (Value.int .i32)) ∧ Below w.heap.size w W'
theorem Row21.below {W W' : World} {v : Value} {zs : List Int} (h : Row21 W v zs) (hb : Below W.heap.size W W') : Row21 W' v zs := h.kp (Kp.below (B := 0) hb)
theorem gives_of {L : List Int} {w w1 W' : World} {v : Value} {l : List Pt} (hL : L = l.map (·.1)) (hb : Below w.heap.size w w1) (h : W'.ownsRow w1.heap.size 21 1 v l.length ((l.map (·.1)).map (Value.int .i32))) (hb2 : Below w1.heap.size w1 W') : Gives L w (.returned v) W' := by
  subst hL
  refine ⟨v, rfl, ?_, hb.trans (hb2.mono hb.size)⟩
  rw [List.length_map]
  obtain ⟨h1, h2⟩ := h
  refine ⟨h1, ?_⟩
  rcases h2 with h2 | ⟨g, cap, cur, e, hg, h3⟩
  · exact .inl h2
  · exact .inr ⟨g, cap, cur, e, Nat.le_trans hb.size hg, h3⟩

set_option maxRecDepth 100000 in
set_option maxHeartbeats 1000000 in
theorem nfc_any (v : Value) (L : List Int) (w : World) (hlen : L.length ≤ 10000) (hv : Row21 w v L) : Calls Tryz.prog 46 #[v] w fun e W' => Gives (nfcI L) w e W' := by
  have hsh : ∃ a m c, v = .slice a m c := by obtain ⟨a, c, e, _⟩ := hv; exact ⟨a, _, c, e⟩
  have hval := callsIn_wide.1 (allApart_in 3 v w hsh)
  have hbx := Boxed.new w 34 v
  obtain ⟨w1, hw1⟩ : ∃ w1, w1 = w.alloc (.cells #[v] 34) := ⟨_, rfl⟩
  rw [← hw1] at hval hbx
  have hB1 : Below w.heap.size w w1 := by rw [hw1]; exact (Below.refl _ w).alloc (Nat.le_refl _) _
  have hfl := fds_len L
  have hord := ordered_any 121 #[.pointer (some ⟨w.heap.size, 0, none⟩)] (L.flatMap fd) w1 (by omega) (enters_of Tryz.func121 (by kernel_rfl) rfl) (all_feeds w1 w.heap.size v L (by omega) hbx (hv.below hB1))
  have HV := hid hval
  have HO := hid hord
  have HB1 := hid hB1
  obtain ⟨a, m, c, rfl⟩ := hsh
  clear hval hord hB1 hbx hv hw1
  go_enter Tryz.func46, Tryz.ntmps46
  go_wp2_with fail
  refine (show Calls _ _ _ _ _ from HV.out).mono ?_
  rintro e w' ⟨rfl, rfl⟩
  go_wp2_with fail
  refine (show Calls _ _ _ _ _ from HO.out).mono ?_
  rintro e w2 ⟨v2, rfl, hr2, hB2⟩
  have hB12 := HB1.out.trans (hB2.mono HB1.out.size)
  have hol : (ord ((L.flatMap fd).map pt)).length ≤ 30000 := by rw [ord_len, List.length_map]; omega
  have htog := together_any v2 (ord ((L.flatMap fd).map pt)) w2 (by omega) (RowP.of_own hr2)
  have HTG := hid htog
  have HB12 := hid hB12
  clear htog hr2 hB2 hB12
  go_wp2_with fail
  refine (show Calls _ _ _ _ _ from HTG.out).mono ?_
  rintro e w3 ⟨v3, rfl, hr3, hB3⟩
  have hB13 := HB12.out.trans (hB3.mono HB12.out.size)
  have hrun := runes_any v3 (comp (ord ((L.flatMap fd).map pt))) w3 (by have := tst_len (ord ((L.flatMap fd).map pt)); unfold comp; omega) (RowP.of_own hr3)
  have HR := hid hrun
  have HB13 := hid hB13
  clear hrun hr3 hB3 hB13
  go_wp2_with fail
  refine (show Calls _ _ _ _ _ from HR.out).mono ?_
  rintro e w4 ⟨v4, rfl, hr4, hB4⟩
  go_wp2
  go_ret
  exact gives_of rfl HB13.out hr4 hB4
set_option maxRecDepth 100000 in
set_option maxHeartbeats 1000000 in
theorem is_any (v : Value) (L : List Int) (w : World) (hlen : L.length ≤ 10000) (hv : Row21 w v L) : Calls Tryz.prog 128 #[v] w fun e W' => e = .returned (.bool (decide (nfcI L = L))) ∧ Below w.heap.size w W' := by
  have hc := nfc_any v L w hlen hv
  have hsh : ∃ a m c, v = .slice a m c := by obtain ⟨a, c, e, _⟩ := hv; exact ⟨a, _, c, e⟩
  have HC := hid hc
  have HV := hid hv
  obtain ⟨a, m, c, rfl⟩ := hsh
  have hl1 := nfcI_len L
  have hl2 := nfdI_len L
  clear hc hv
  go_enter Tryz.func128, Tryz.ntmps128
  go_wp2_with fail
  refine (show Calls _ _ _ _ _ from HC.out).mono ?_
  rintro e w1 ⟨v1, rfl, hr1, hB1⟩
  have heq := equal_any v1 (.slice a m c) (nfcI L) L w1 (by omega) (Row21.of_own rfl hr1) (HV.out.below hB1)
  have HE := hid heq
  have HB1 := hid hB1
  clear heq hr1 hB1
  go_wp2_with fail
  refine (show Calls _ _ _ _ _ from HE.out).mono ?_
  rintro e w2 ⟨rfl, hB2⟩
  go_wp2
  go_ret
  exact ⟨rfl, HB1.out.trans (hB2.mono HB1.out.size)⟩
/-- What norm.Text answers. -/
def textR (s t : ByteArray) : Prop := ∃ r, U.encR (nfcI (U.dec (U.bn s))) t r
end Go.Proofs.YtdncaehajhmcoaaGreat.N
