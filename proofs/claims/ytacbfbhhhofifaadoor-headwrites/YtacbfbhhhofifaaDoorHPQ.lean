/- head: Feed of a reader that waits. (Stage 19.) -/
import Derived.Test.YtacbfbhhhofifaaDoorHPO
namespace Go.Proofs.YtacbfbhhhofifaaDoor.Hd
open Go.RowKit
open Go.Proofs.YtacbfbhhhofifaaDoor.F (bn bn_length bn_append bn_inj bn_get byte_bd hid bn_extract isEmpty_false isEmpty_true str_eq same_eq)
set_option linter.unusedVariables false

theorem go_oneq {q : St} {l : List Int} {i : Nat} (hi : i < l.length) {t : St} (hq : go q (l.take i) = t) (hd : t.d = false) (he : t.e = 0) : go q (l.take (i + 1)) = step t (l[i]?.getD 0) ∧
    ((step t (l[i]?.getD 0)).d = true ∨ (step t (l[i]?.getD 0)).e ≠ 0 → go q l = step t (l[i]?.getD 0)) := by
  have e1 : l.take (i + 1) = l.take i ++ [l[i]?.getD 0] := by rw [List.take_succ_eq_append_getElem hi, List.getElem?_eq_getElem hi]; rfl
  have e2 : go q (l.take (i + 1)) = step t (l[i]?.getD 0) := by
    rw [e1, go_append, hq, go, if_neg (by simp [hd, he]), go]
  refine ⟨e2, fun h => ?_⟩
  have e3 : l = l.take (i + 1) ++ l.drop (i + 1) := (List.take_append_drop _ _).symm
  exact (congrArg (go q) e3).trans (by rw [go_append, e2, go_over h])
/-- What holds behind so many bytes. -/
structure FedI (base : Nat) (b : Nat) (q : St) (m : List Int) (i : Nat) (W : World) : Prop where
  e : (go q (m.take i)).e = 0
  n : (go q (m.take i)).n = q.n + i
  st : ((go q (m.take i)).d = false ∧ Liv base W b (go q (m.take i))) ∨ ((go q (m.take i)).d = true ∧ Dne base W b (go q (m.take i)))
theorem FedI.cell {base b : Nat} {q : St} {m : List Int} {i : Nat} {W : World} (h : FedI base b q m i W) : ∃ S : Int, W.cell? ⟨b, 0, none⟩ = some (.int .u8 S) ∧ (S == 4) = (go q (m.take i)).d ∧ (S != 4) = !(go q (m.take i)).d := by
  rcases h.st with ⟨h1, h2⟩ | ⟨h1, h2⟩
  · obtain ⟨L, M, T, v, F, fs, hm, _⟩ := h2.ex
    refine ⟨stN (go q (m.take i)), hm.cell 0, ?_, ?_⟩
    · rw [h1]; unfold stN; split
      · rfl
      · split <;> rfl
    · rw [h1]; unfold stN; split
      · rfl
      · split <;> rfl
  · obtain ⟨L, M, T, v, F, fs, l, hm, _⟩ := h2
    exact ⟨4, hm.cell 0, by rw [h1]; rfl, by rw [h1]; rfl⟩
/-- At the end. -/
theorem FedI.fin {base b : Nat} {q : St} {m : List Int} {i : Nat} {W : World} (h : FedI base b q m i W) (hi : i ≤ m.length) (hx : i = m.length ∨ (go q (m.take i)).d = true) : go q m = go q (m.take i) ∧ RdS base W b (go q m) := by
  have e : go q m = go q (m.take i) := by
    rcases hx with hx | hx
    · rw [hx, List.take_length]
    · have e3 : m = m.take i ++ m.drop i := (List.take_append_drop _ _).symm
      exact (congrArg (go q) e3).trans (by rw [go_append, go_over (.inl hx)])
  refine ⟨e, ?_⟩
  rw [e]
  rcases h.st with ⟨h1, h2⟩ | ⟨h1, h2⟩
  · exact .inl ⟨h.e, h1, h2⟩
  · exact .inr (.inl ⟨h.e, h1, h2⟩)
theorem FedI.go {base b : Nat} {q : St} {m : List Int} {i : Nat} {W W' : World} (h : FedI base b q m i W) (hi : i < m.length) (hd : (Hd.go q (m.take i)).d = false) (hs : (step (Hd.go q (m.take i)) (m[i]?.getD 0)).e = 0) (ht : ((step (Hd.go q (m.take i)) (m[i]?.getD 0)).d = false ∧ Liv base W' b (step (Hd.go q (m.take i)) (m[i]?.getD 0))) ∨ ((step (Hd.go q (m.take i)) (m[i]?.getD 0)).d = true ∧ Dne base W' b (step (Hd.go q (m.take i)) (m[i]?.getD 0)))) : FedI base b q m (i + 1) W' := by
  obtain ⟨g1, _⟩ := go_oneq hi rfl hd h.e
  refine ⟨by rw [g1]; exact hs, by rw [g1, step_n, h.n]; omega, by rw [g1]; exact ht⟩
theorem FedI.below {base b : Nat} {q : St} {m : List Int} {i : Nat} {W W' : World} (h : FedI base b q m i W) (hb : Below W.heap.size W W') : FedI base b q m i W' :=
  ⟨h.e, h.n, h.st.imp (fun x => ⟨x.1, x.2.below hb⟩) (fun x => ⟨x.1, x.2.below hb⟩)⟩
theorem below_drew0 (W : World) : Below W.heap.size W W.drew := (Below.refl _ W).drew
theorem Liv.setBox {base : Nat} {W : World} {b : Nat} {s : St} (h : Liv base W b s) {B : Nat} {t : TypeId} {u : Value} (hb : Boxed W B t u) (h1 : t ≠ 62) (h2 : t ≠ 5) (h3 : t ≠ 40) (x : Value) : Liv base (W.setCell ⟨B, 0, none⟩ x) b s := by
  obtain ⟨L, M, T, v, F, fs, hm, hr⟩ := h.ex
  exact ⟨⟨L, M, T, v, F, fs, hm.setBox hb h1 h2 h3 x, hr⟩, h.d, h.e, h.len, h.n, h.by', h.z⟩
theorem Dne.setBox {base : Nat} {W : World} {b : Nat} {s : St} (h : Dne base W b s) {B : Nat} {t : TypeId} {u : Value} (hb : Boxed W B t u) (h1 : t ≠ 62) (h2 : t ≠ 5) (h3 : t ≠ 40) (x : Value) : Dne base (W.setCell ⟨B, 0, none⟩ x) b s := by
  obtain ⟨L, M, T, v, F, fs, l, hm, hr⟩ := h
  exact ⟨L, M, T, v, F, fs, l, hm.setBox hb h1 h2 h3 x, hr⟩
theorem RdS.setBox {base : Nat} {W : World} {b : Nat} {s : St} (h : RdS base W b s) {B : Nat} {t : TypeId} {u : Value} (hb : Boxed W B t u) (h1 : t ≠ 62) (h2 : t ≠ 5) (h3 : t ≠ 40) (x : Value) : RdS base (W.setCell ⟨B, 0, none⟩ x) b s := by
  rcases h with ⟨a1, a2, a3⟩ | ⟨a1, a2, a3⟩ | ⟨a1, a2, a3⟩
  · exact .inl ⟨a1, a2, a3.setBox hb h1 h2 h3 x⟩
  · exact .inr (.inl ⟨a1, a2, a3.setBox hb h1 h2 h3 x⟩)
  · exact .inr (.inr ⟨a1, a2, Mem.setBox a3 hb h1 h2 h3 x⟩)
theorem FedI.val {base b : Nat} {q : St} {m : List Int} {i : Nat} {W : World} {S : Int} (h : FedI base b q m i W) (hS : (S == 4) = (Hd.go q (m.take i)).d) (e : Hd.go q m = Hd.go q (m.take i)) : (.tuple #[.int .i64 (i : Int), .bool (S == 4), .int .i64 0] : Value) = .tuple #[.int .i64 (((Hd.go q m).n : Int) - q.n), .bool (Hd.go q m).d, .int .i64 (Hd.go q m).e] := by
  have h1 : ((Hd.go q m).n : Int) - q.n = i := by rw [e, h.n]; omega
  rw [h1, hS, e, h.e]
  rfl
/-- What Feed answers, of a reader that waits. -/
def LvR (base : Nat) (W : World) (b : Nat) (q : St) (m : List Int) (e : Ending) (W' : World) : Prop := e = .returned (.tuple #[.int .i64 (((go q m).n : Int) - q.n), .bool (go q m).d, .int .i64 (go q m).e]) ∧ RdS base W' b (go q m) ∧ Below base W W'
set_option maxRecDepth 100000 in
set_option maxHeartbeats 16000000 in
theorem feed_live (base : Nat) (W : World) (b : Nat) (q : St) (s : ByteArray) (h : Liv base W b q) (hs : s.size ≤ 1000000) : Calls Tryd.prog 17 #[.pointer (some ⟨b, 0, none⟩), .string s] W fun e W' => LvR base W b q (bn s) e W' := by
  have hmf : ∀ (fn : Fn) (first cap : Array Value) (w : World), (Instr.makeFunc fn first cap).run Tryd.prog w = .ok (.func fn first cap) w := fun _ _ _ _ => rfl
  obtain ⟨hb, hbs⟩ : b < W.heap.size ∧ base ≤ W.heap.size := by
    obtain ⟨L, M, T, v, F, fs, hm, _⟩ := h.ex
    exact ⟨hm.lt, hm.base_le⟩
  have HR := hid (fed2_r W (.pointer (some ⟨b, 0, none⟩)))
  have HE := hid (fed2_e W (.pointer (some ⟨b, 0, none⟩)))
  have HB := hid ((fed2_below W (.pointer (some ⟨b, 0, none⟩))).mono hbs)
  have HI : Hid (FedI base b q (bn s) 0 (fed2 W (.pointer (some ⟨b, 0, none⟩)))) := ⟨h.e, rfl, .inl ⟨h.d, h.below (fed2_below W _)⟩⟩
  have HF2 := hid (fed2_below W (.pointer (some ⟨b, 0, none⟩)))
  obtain ⟨W2, hW2⟩ : ∃ x, fed2 W (.pointer (some ⟨b, 0, none⟩)) = x := ⟨_, rfl⟩
  rw [hW2] at HR HE HB HI HF2
  have c0 := HR.out.cell
  obtain ⟨S, cs, hq1, hq2⟩ := HI.out.cell
  clear hq1 hq2
  have hS : S ≠ 0 ∧ (S == 4) = false ∧ (S == 5) = false := by
    obtain ⟨L, M, T, v, F, fs, hm, _⟩ := h.ex
    have c1 := (World.cell?_of_block (HF2.out.block b hb)).trans (hm.cell 0)
    rw [cs] at c1
    have e : S = stN q := by injection c1 with c1; injection c1
    rw [e]; unfold stN
    split
    · decide
    · split <;> decide
  obtain ⟨hS0, hS4, hS5⟩ := hS
  have HM := hid (made_any W2 b S cs hS0)
  have HTK := hid (fun w t c (ht : Liv base w b t) (c0 : 0 ≤ c) (c1 : c ≤ 255) => take_any base w b t c ht c0 c1)
  have hlen : (bn s).length = s.size := bn_length s
  clear h HF2
  go_enter_defers Tryd.func17, Tryd.ntmps17
  go_upto_region 1 with fail
  show Code.wp _ _ _ _ (fed2 W (.pointer (some ⟨b, 0, none⟩)))
  rw [hW2]
  clear hW2
  go_wp2_with (go_at_call 30; refine HM.out.mono ?_; rintro e W2 ⟨rfl, rfl⟩)
  clear HM cs c0 hS4 hS5 hS0
  go_loopw [4] (fun v4 wr => ∃ i : Nat, i ≤ s.size ∧ v4 = .int .i64 (i : Int) ∧ FedI base b q (bn s) i wr ∧ Boxed wr W.heap.size 45 (.pointer (some ⟨b, 0, none⟩)) ∧ Boxed wr (W.heap.size + 1) 28 (.int .i64 0) ∧ Below base W wr) (fun v4 _ => s.size - (intOf v4).toNat)
  case atStart => exact ⟨0, Nat.zero_le _, rfl, HI.out, HR.out, HE.out, HB.out⟩
  case round =>
    clear HI HR HE HB
    obtain ⟨i, hi, rfl, hI, hR, hE, hB⟩ := hrel
    have HI := hid hI
    have HR := hid hR
    have HE := hid hE
    have HB := hid hB
    clear hI hR hE hB
    have c0 := HR.out.cell
    obtain ⟨S, cs, hS4, hN4⟩ := HI.out.cell
    by_cases hlt : i < s.size
    · have hltz : (i : Int) < (s.size : Int) := by omega
      cases hd : (go q ((bn s).take i)).d with
      | false =>
        rw [hd] at hN4
        replace hN4 : (S != 4) = true := hN4
        clear hS4
        have hg := (bn_get s i hlt).symm
        obtain ⟨q0, q1⟩ := byte_bd (s := s) hlt
        have HG := hid (go_oneq (l := bn s) (i := i) (by omega) rfl hd HI.out.e)
        have HGO := hid (fun W' => HI.out.go (W' := W') (by omega) hd)
        have HDE := hid (step_de (c := (bn s)[i]?.getD 0) hd HI.out.e)
        have HLV : Hid (Liv base wr b (go q ((bn s).take i))) := by
          rcases HI.out.st with ⟨_, h2⟩ | ⟨h1, _⟩
          · exact h2
          · rw [hd] at h1; cases h1
        have HN := hid HI.out.n
        have HSN := hid (step_n (go q ((bn s).take i)) ((bn s)[i]?.getD 0))
        obtain ⟨y, hy⟩ : ∃ y, (bn s)[i]?.getD 0 = y := ⟨_, rfl⟩
        rw [hy] at hg q0 q1 HG HGO HDE HSN
        obtain ⟨t, ht⟩ : ∃ t, go q ((bn s).take i) = t := ⟨_, rfl⟩
        rw [ht] at HG HGO HDE HLV HN HSN
        clear hy ht hd HI
        go_upto_region 10 with fail
        have hSS : wr.heap[W.heap.size]? = some (.cells #[.pointer (some ⟨b, 0, none⟩)] 45 (0, 0)) := HR.out
        refine E.wp_region_lastP highB ?hP (by kernel_rfl) (fun X => X.heap[W.heap.size]? = some (.cells #[.pointer (some ⟨b, 0, none⟩)] 45 (0, 0))) [(0, true), (1, true), (2, true), (3, true), (4, true)] 5 _ rfl (by kernel_rfl) (by kernel_rfl) hSS ?_
        case hP =>
          intro c a d v w hd h
          exact feed_panic_put (R := fun e W' => LvR base W b q (bn s) e W') c a d v w hd h
        simp only [E.selS, List.filterMap_cons, List.filterMap_nil, List.getElem?_cons_succ, List.getElem?_cons_zero, Option.map_some]
        clear hSS c0 cs
        refine E.wpS_val (.pointer (some ⟨b, 0, none⟩)) (by rfl) (fun X hS => by have q1 := cell_of_row X W.heap.size 0 _ _ _ hS; simp only [List.getElem?_toArray, List.getElem?_cons_zero] at q1; go_simp) ?_
        simp only [Act.put, List.setIfInBounds_toArray, List.set_cons_succ, List.set_cons_zero]
        refine E.wpS_val (.string s) (by rfl) (fun X hS => by go_simp) ?_
        simp only [Act.put, List.setIfInBounds_toArray, List.set_cons_succ, List.set_cons_zero]
        refine E.wpS_val (.int .i64 ((i : Int) + 1)) (by rfl) (fun X hS => by go_simp) ?_
        simp only [Act.put, List.setIfInBounds_toArray, List.set_cons_succ, List.set_cons_zero]
        refine E.wpS_val (.int .i64 (i : Int)) (by rfl) (fun X hS => by have hw : IntKind.i64.wrap (i : Int) = (i : Int) := (by rw [IntKind.wrap_i64]; omega); go_simp) ?_
        simp only [Act.put, List.setIfInBounds_toArray, List.set_cons_succ, List.set_cons_zero]
        refine E.wpS_val (.int .u8 y) (by rfl) (fun X hS => by go_simp) ?_
        simp only [Act.put, List.setIfInBounds_toArray, List.set_cons_succ, List.set_cons_zero]
        show wpList _ _ _ [_] _ (World.drew wr)
        have HE2 : Hid (Boxed (World.drew wr) (W.heap.size + 1) 28 (.int .i64 0)) := HE.out
        have HR2 : Hid (Boxed (World.drew wr) W.heap.size 45 (.pointer (some ⟨b, 0, none⟩))) := HR.out
        have HB2 := hid (below_drew HB.out)
        have HL2 : Hid (Liv base (World.drew wr) b t) := HLV.out.below (below_drew0 wr)
        obtain ⟨wd, hwd⟩ : ∃ x, World.drew wr = x := ⟨_, rfl⟩
        rw [hwd] at HE2 HB2 HR2 HL2 ⊢
        clear hwd HE HB HR HLV
        go_wp2_with fail
        refine (HTK.out wd t y HL2.out q0 q1).mono ?_
        rintro e w4 ⟨hT, hB4⟩
        have HE4 := hid (hB4.boxed HE2.out (by decide) (by decide) (by decide))
        have HR4 := hid (hB4.boxed HR2.out (by decide) (by decide) (by decide))
        have HB4 := hid (HB2.out.trans hB4.lo)
        clear hB4 HE2 HR2 HB2 HL2 HTK
        rcases hT with ⟨h1, rfl, h2⟩ | ⟨h1, h2, rfl, h3⟩ | ⟨h1, h2, rfl, h3⟩
        · have H := hid (And.intro h1 h2)
          clear h1 h2
          have hd2 : (step t y).d = false := HDE.out.resolve_right H.out.1
          have eg := HG.out.2 (.inr H.out.1)
          have HPV : Hid ((.tuple #[.int .i64 ((i : Int) + 1), .bool false, .int .i64 ((step t y).e : Nat)] : Value) = .tuple #[.int .i64 (((go q (bn s)).n : Int) - q.n), .bool (go q (bn s)).d, .int .i64 (go q (bn s)).e]) := by
            have h9 : (((step t y).n : Nat) : Int) - q.n = (i : Int) + 1 := by rw [HSN.out, HN.out]; omega
            show _ = _
            rw [eg, h9, hd2]
          have HQR : Hid (∀ w', Brk base w' b (step t y).n (step t y).e → RdS base w' b (go q (bn s))) := fun w' hw => by
            rw [eg]
            exact .inr (.inr ⟨H.out.1, hd2, hw⟩)
          clear hd2 eg HG HGO HDE HN HSN
          go_wp2_with fail
          exact feed_caught (base := base) (b := b) (n := (step t y).n) (y := 0) _ rfl (by omega) HE4.out HR4.out H.out.2 (fun w' hw1 hw2 => ⟨congrArg Ending.returned HPV.out, HQR.out w' hw1, HB4.out.trans hw2⟩)
        · have H := hid (And.intro h1 (And.intro h2 h3))
          have HI9 := hid (HGO.out w4 h1 (.inl ⟨h2, h3⟩))
          clear h1 h2 h3 HG HGO HDE HN HSN
          go_wp2_with fail
          refine E.onlyP_normal ?_
          go_wp2
          go_roundw
          case rel => exact ⟨i + 1, by omega, by go_num, HI9.out, HR4.out, HE4.out, HB4.out⟩
          case measure => simp [intOf]; omega
        · have H := hid (And.intro h1 (And.intro h2 h3))
          have HI9 := hid (HGO.out w4 h1 (.inr ⟨h2, h3⟩))
          clear h1 h2 h3 HG HGO HDE HN HSN
          go_wp2_with fail
          refine E.onlyP_normal ?_
          go_wp2
          go_roundw
          case rel => exact ⟨i + 1, by omega, by go_num, HI9.out, HR4.out, HE4.out, HB4.out⟩
          case measure => simp [intOf]; omega
      | true =>
        have HX := hid (HI.out.fin (by omega) (.inr hd))
        have HV := hid (HI.out.val hS4 HX.out.1)
        rw [hd] at hN4
        replace hN4 : (S != 4) = false := hN4
        clear hS4
        go_upto_region 11 with fail
        have hSS : wr.heap[W.heap.size]? = some (.cells #[.pointer (some ⟨b, 0, none⟩)] 45 (0, 0)) ∧ wr.cell? ⟨b, 0, none⟩ = some (.int .u8 S) := ⟨HR.out, cs⟩
        refine E.wp_region_last (fun X => X.heap[W.heap.size]? = some (.cells #[.pointer (some ⟨b, 0, none⟩)] 45 (0, 0)) ∧ X.cell? ⟨b, 0, none⟩ = some (.int .u8 S)) [(0, true), (1, true), (2, true), (3, true), (4, true), (5, true), (6, true), (7, true)] 8 _ rfl (by kernel_rfl) (by kernel_rfl) hSS ?_
        simp only [E.selS, List.filterMap_cons, List.filterMap_nil, List.getElem?_cons_succ, List.getElem?_cons_zero, Option.map_some]
        clear hSS c0 cs
        refine E.wpS_val (.int .i64 (i : Int)) (by rfl) (fun X hS => by go_simp) ?_
        simp only [Act.put, List.setIfInBounds_toArray, List.set_cons_succ, List.set_cons_zero]
        refine E.wpS_val (.pointer (some ⟨b, 0, none⟩)) (by rfl) (fun X hS => by have q1 := cell_of_row X W.heap.size 0 _ _ _ hS.1; simp only [List.getElem?_toArray, List.getElem?_cons_zero] at q1; go_simp) ?_
        simp only [Act.put, List.setIfInBounds_toArray, List.set_cons_succ, List.set_cons_zero]
        refine E.wpS_val (.pointer (some ⟨b, 0, none⟩)) (by rfl) (fun X hS => by go_simp) ?_
        simp only [Act.put, List.setIfInBounds_toArray, List.set_cons_succ, List.set_cons_zero]
        refine E.wpS_val (.pointer (some ⟨b, 0, none⟩)) (by rfl) (fun X hS => by go_simp) ?_
        simp only [Act.put, List.setIfInBounds_toArray, List.set_cons_succ, List.set_cons_zero]
        refine E.wpS_val (.int .u8 S) (by rfl) (fun X hS => by have q1 := hS.2; go_simp) ?_
        simp only [Act.put, List.setIfInBounds_toArray, List.set_cons_succ, List.set_cons_zero]
        refine E.wpS_val (.bool (S == 4)) (by rfl) (fun X hS => by go_simp) ?_
        simp only [Act.put, List.setIfInBounds_toArray, List.set_cons_succ, List.set_cons_zero]
        refine E.wpS_val (.int .i64 (i : Int)) (by rfl) (fun X hS => by go_simp) ?_
        simp only [Act.put, List.setIfInBounds_toArray, List.set_cons_succ, List.set_cons_zero]
        refine E.wpS_val (.bool (S == 4)) (by rfl) (fun X hS => by go_simp) ?_
        simp only [Act.put, List.setIfInBounds_toArray, List.set_cons_succ, List.set_cons_zero]
        show wpList _ _ _ [_] _ (World.drew wr)
        have HE2 : Hid (Boxed (World.drew wr) (W.heap.size + 1) 28 (.int .i64 0)) := HE.out
        have HB2 := hid (below_drew HB.out)
        have HX2 : Hid (RdS base (World.drew wr) b (go q (bn s))) := HX.out.2.below (below_drew0 wr)
        obtain ⟨wd, hwd⟩ : ∃ x, World.drew wr = x := ⟨_, rfl⟩
        rw [hwd] at HE2 HB2 HX2 ⊢
        clear hwd HE HB HR HTK
        have ce := HE2.out.cell
        have fe := HE2.out.frozen
        go_wp2
        refine ⟨rfl, ?_⟩
        go_wp2
        refine feed_idle (Br := W.heap.size) _ rfl (HE2.out.set (.int .i64 0)) ⟨congrArg Ending.returned HV.out, HX2.out.setBox HE2.out (by decide) (by decide) (by decide) _, HB2.out.setCell (p := ⟨W.heap.size + 1, 0, none⟩) (by simp only; omega) _⟩
    · have hltz : ¬ (i : Int) < (s.size : Int) := by omega
      have HX := hid (HI.out.fin (by omega) (.inl (by omega)))
      have HV := hid (HI.out.val hS4 HX.out.1)
      clear hS4
      go_upto_region 11 with fail
      have hSS : wr.heap[W.heap.size]? = some (.cells #[.pointer (some ⟨b, 0, none⟩)] 45 (0, 0)) ∧ wr.cell? ⟨b, 0, none⟩ = some (.int .u8 S) := ⟨HR.out, cs⟩
      refine E.wp_region_last (fun X => X.heap[W.heap.size]? = some (.cells #[.pointer (some ⟨b, 0, none⟩)] 45 (0, 0)) ∧ X.cell? ⟨b, 0, none⟩ = some (.int .u8 S)) [(0, true), (1, true), (2, true), (3, true), (4, true), (5, true), (6, true), (7, true)] 8 _ rfl (by kernel_rfl) (by kernel_rfl) hSS ?_
      simp only [E.selS, List.filterMap_cons, List.filterMap_nil, List.getElem?_cons_succ, List.getElem?_cons_zero, Option.map_some]
      clear hSS c0 cs
      refine E.wpS_val (.int .i64 (i : Int)) (by rfl) (fun X hS => by go_simp) ?_
      simp only [Act.put, List.setIfInBounds_toArray, List.set_cons_succ, List.set_cons_zero]
      refine E.wpS_val (.pointer (some ⟨b, 0, none⟩)) (by rfl) (fun X hS => by have q1 := cell_of_row X W.heap.size 0 _ _ _ hS.1; simp only [List.getElem?_toArray, List.getElem?_cons_zero] at q1; go_simp) ?_
      simp only [Act.put, List.setIfInBounds_toArray, List.set_cons_succ, List.set_cons_zero]
      refine E.wpS_val (.pointer (some ⟨b, 0, none⟩)) (by rfl) (fun X hS => by go_simp) ?_
      simp only [Act.put, List.setIfInBounds_toArray, List.set_cons_succ, List.set_cons_zero]
      refine E.wpS_val (.pointer (some ⟨b, 0, none⟩)) (by rfl) (fun X hS => by go_simp) ?_
      simp only [Act.put, List.setIfInBounds_toArray, List.set_cons_succ, List.set_cons_zero]
      refine E.wpS_val (.int .u8 S) (by rfl) (fun X hS => by have q1 := hS.2; go_simp) ?_
      simp only [Act.put, List.setIfInBounds_toArray, List.set_cons_succ, List.set_cons_zero]
      refine E.wpS_val (.bool (S == 4)) (by rfl) (fun X hS => by go_simp) ?_
      simp only [Act.put, List.setIfInBounds_toArray, List.set_cons_succ, List.set_cons_zero]
      refine E.wpS_val (.int .i64 (i : Int)) (by rfl) (fun X hS => by go_simp) ?_
      simp only [Act.put, List.setIfInBounds_toArray, List.set_cons_succ, List.set_cons_zero]
      refine E.wpS_val (.bool (S == 4)) (by rfl) (fun X hS => by go_simp) ?_
      simp only [Act.put, List.setIfInBounds_toArray, List.set_cons_succ, List.set_cons_zero]
      show wpList _ _ _ [_] _ (World.drew wr)
      have HE2 : Hid (Boxed (World.drew wr) (W.heap.size + 1) 28 (.int .i64 0)) := HE.out
      have HB2 := hid (below_drew HB.out)
      have HX2 : Hid (RdS base (World.drew wr) b (go q (bn s))) := HX.out.2.below (below_drew0 wr)
      obtain ⟨wd, hwd⟩ : ∃ x, World.drew wr = x := ⟨_, rfl⟩
      rw [hwd] at HE2 HB2 HX2 ⊢
      clear hwd HE HB HR HTK
      have ce := HE2.out.cell
      have fe := HE2.out.frozen
      go_wp2
      refine ⟨rfl, ?_⟩
      go_wp2
      refine feed_idle (Br := W.heap.size) _ rfl (HE2.out.set (.int .i64 0)) ⟨congrArg Ending.returned HV.out, HX2.out.setBox HE2.out (by decide) (by decide) (by decide) _, HB2.out.setCell (p := ⟨W.heap.size + 1, 0, none⟩) (by simp only; omega) _⟩
end Go.Proofs.YtacbfbhhhofifaaDoor.Hd
