/- LexPlaces. (Stage 15.) -/
import Derived.Test.YtphkdagapoonjaaDoorLPY
namespace Go.Proofs.YtphkdagapoonjaaDoor.Lx
open Go.RowKit
open Go.Proofs.YtphkdagapoonjaaDoor.F (bn bn_length bn_append bn_inj bn_get byte_bd hid bn_extract isEmpty_false isEmpty_true str_eq same_eq)
open Go.Proofs.YtphkdagapoonjaaDoor.U (nx enc encs scal val Bytes)
set_option linter.unusedVariables false

set_option maxRecDepth 100000 in
set_option maxHeartbeats 16000000 in
theorem places_any (s : ByteArray) (wh : Int) (w : World) (hsz : s.size ≤ maxLen) (G : Gl w) :
    Calls Tryd.prog 4 #[.string s, .int .i64 wh] w fun e w' => e = .returned (.bool true) ∧ Below w.heap.size w w' := by
  have hsz2 : s.size ≤ 9223372036854775807 := hsz
  have HG := hid (fun W (h : Below w.heap.size w W) => G.below h)
  have HAL := hid (fun W (h : Below w.heap.size w W) => alive_any W (G.below h))
  have G0 := hid G
  clear G
  by_cases hs4 : s.size ≤ 4096
  rotate_left
  · have hsg : (4096 : Int) < (s.size : Int) := by omega
    have H1 := hid (HAL.out w (Below.refl _ _))
    go_enter Tryd.func4, Tryd.ntmps4
    go_wp2_with fail
    refine H1.out.mono ?_
    rintro e w2 ⟨rfl, B2⟩
    clear H1 HG HAL G0
    go_wp2
    go_ret
    exact ⟨rfl, B2⟩
  have hsg : ¬ (4096 : Int) < (s.size : Int) := by omega
  have H1 := hid (lex_any s (by omega) w G0.out)
  clear G0
  go_enter Tryd.func4, Tryd.ntmps4
  go_wp2_with fail
  refine H1.out.mono ?_
  rintro e w1 ⟨hq, B1⟩
  have HB1 := hid B1
  clear H1 B1
  by_cases h0 : (lex (bn s)).2.1 = 0
  rotate_left
  · obtain ⟨a6, c6, f0, f1, f2, hf0, rfl⟩ := ln_bad hq h0
    have hf1 : (f0 != 0) = true := by simp [hf0]
    have HB7 : Hid (Below w.heap.size w (w1.alloc (.cells #[.int .i64 f0, .int .i64 f1, .int .i64 f2] 29))) := HB1.out.alloc HB1.out.size _
    have hc6 : (w1.alloc (.cells #[.int .i64 f0, .int .i64 f1, .int .i64 f2] 29)).cell? ⟨w1.heap.size, 0, none⟩ = some (.int .i64 f0) := World.cell?_alloc_new w1 _ _ 0
    have H7 := hid (HAL.out _ HB7.out)
    clear hq h0 HAL HG HB1
    go_wp2_with fail
    refine H7.out.mono ?_
    rintro e w7 ⟨rfl, B7⟩
    have HE := hid (HB7.out.trans (B7.mono HB7.out.size))
    clear H7 B7 HB7
    go_wp2
    go_ret
    exact ⟨rfl, HE.out⟩
  obtain ⟨a6, c6, ts, rfl, hat, _, _, _, hln, hlx, hnn⟩ := ln_good hq h0 (by omega)
  have hc6 : (w1.alloc (.cells #[.int .i64 0, .int .i64 0, .int .i64 0] 29)).cell? ⟨w1.heap.size, 0, none⟩ = some (.int .i64 0) := World.cell?_alloc_new w1 _ _ 0
  have HB2 : Hid (Below w.heap.size w (w1.alloc (.cells #[.int .i64 0, .int .i64 0, .int .i64 0] 29))) := HB1.out.alloc HB1.out.size _
  have HO2 : Hid (Below w1.heap.size w1 (w1.alloc (.cells #[.int .i64 0, .int .i64 0, .int .i64 0] 29))) := (Below.refl _ _).alloc (Nat.le_refl _) _
  clear hq h0
  obtain ⟨len, hlen⟩ : ∃ len, ts.length = len := ⟨_, rfl⟩
  by_cases hts : ts.length = 0
  · have HAx := hid (HAL.out _ HB2.out)
    rw [hts]
    clear hat hlx hnn hts hln hlen HO2 HAL HG HB1
    go_wp2_with fail
    refine HAx.out.mono ?_
    rintro e w7 ⟨rfl, B7⟩
    have HE := hid (HB2.out.trans (B7.mono HB2.out.size))
    clear HAx B7 HB2
    go_wp2
    go_ret
    exact ⟨rfl, HE.out⟩
  obtain ⟨z, hz, hmask⟩ := mask24 wh
  obtain ⟨m, hm⟩ : ∃ m, z % ts.length = m := ⟨_, rfl⟩
  have hml : m < ts.length := by rw [← hm]; exact Nat.mod_lt _ (by omega)
  obtain ⟨b, off, rfl, e0, e1, e2, e3⟩ := hat.cell hml
  obtain ⟨k, x, tn, ta, htk, hAt⟩ := tok_of hlx (by omega) hnn hml
  rw [htk] at e0 e1 e2 e3
  simp only at e0 e1 e2 e3
  rw [hlen] at hml hm hts hln ⊢
  have hmm : (Int.tmod (z : Int) (len : Int)) = (m : Int) := by rw [← hm]; rfl
  have HAT := hid hAt
  replace e0 := keeps HO2.out e0
  replace e1 := keeps HO2.out e1
  replace e2 := keeps HO2.out e2
  replace e3 := keeps HO2.out e3
  clear hat hlx hnn htk hAt hlen HO2 HB1
  have hsz1 : (w1.alloc (.cells #[.int .i64 0, .int .i64 0, .int .i64 0] 29)).heap.size = w1.heap.size + 1 := Array.size_push _
  have D : ∀ i, ((w1.alloc (.cells #[.int .i64 0, .int .i64 0, .int .i64 0] 29)).alloc (.cells (tcs ⟨k, x, tn, ta⟩) 35)).cell? ⟨w1.heap.size + 1, i, none⟩ = (tcs ⟨k, x, tn, ta⟩)[i]? := fun i => by rw [← hsz1]; exact World.cell?_alloc_new _ _ _ i
  have D0 := hid (D 0)
  have D1 := hid (D 1)
  have D2 := hid (D 2)
  have D3 := hid (D 3)
  have HB3 : Hid (Below w.heap.size w ((w1.alloc (.cells #[.int .i64 0, .int .i64 0, .int .i64 0] 29)).alloc (.cells (tcs ⟨k, x, tn, ta⟩) 35))) := HB2.out.alloc HB2.out.size _
  clear D hsz1
  have HBY := hid (fun j (h : j < s.size) => byte_bd (s := s) h)
  have HGT := hid (bn_get s)
  have HRA := hid (fun i (h : i < s.size) => rem_at (s := s) (i := i) h)
  have HON := hid (bn_one1 s)
  have HPC : Hid (rem ((bn s).drop 0) 1 tn = pc (bn s) (tn - 1)) := by show _ = _; unfold rem; rw [List.drop_zero, if_pos HAT.out.1]
  have HEN : Hid (∀ n, rem ((bn s).drop s.size) n tn = []) := fun n => by rw [List.drop_eq_nil_of_le (by rw [bn_length]; exact Nat.le_refl _), rem_nil]
  obtain ⟨P, hP⟩ : ∃ P, pc (bn s) (tn - 1) = P := ⟨_, rfl⟩
  rw [hP] at HPC
  have hA1 : 1 ≤ tn := HAT.out.1
  have hA2 : ta ≤ P.length := by rw [← hP]; exact HAT.out.2.1
  have HA3 : Hid (k = 5 ∧ (P.drop ta = [] ∨ P.drop ta = [13]) ∨ k ≠ 5 ∧ ∃ r, lex (P.drop ta ++ [10]) = (⟨k, bn x, 1, 0⟩ :: r, 0, 0, 0)) := by rw [← hP]; exact HAT.out.2.2
  clear hP HAT HB2
  go_wp2_with fail
  go_loopw [8, 9, 10] (fun v8 v9 v10 wr => ∃ (y : ByteArray) (n i : Nat), v8 = .string y ∧ v9 = .int .i64 (n : Int) ∧ v10 = .int .i64 (i : Int) ∧ i ≤ s.size ∧ n ≤ i + 1 ∧ y.size ≤ i ∧ Hid (bn y ++ rem ((bn s).drop i) n tn = P) ∧ Hid (wr.cell? ⟨w1.heap.size + 1, 0, none⟩ = some (.int .u8 (k : Int))) ∧ Hid (wr.cell? ⟨w1.heap.size + 1, 1, none⟩ = some (.string x)) ∧ Hid (wr.cell? ⟨w1.heap.size + 1, 2, none⟩ = some (.int .i64 (tn : Int))) ∧ Hid (wr.cell? ⟨w1.heap.size + 1, 3, none⟩ = some (.int .i64 (ta : Int))) ∧ Hid (Below w.heap.size w wr)) (fun _ _ v10 _ => s.size - (intOf v10).toNat)
  case atStart => exact ⟨⟨#[]⟩, 1, 0, rfl, rfl, rfl, by omega, by omega, by decide, HPC.out, D0.out, D1.out, D2.out, D3.out, HB3.out⟩
  case round =>
    obtain ⟨y, n, i, rfl, rfl, rfl, hi, hni, hyi, HR, K0, K1, K2, K3, HB⟩ := hrel
    clear D0 D1 D2 D3 HB3 HPC
    by_cases hlt : i < s.size
    · have hltz : (i : Int) < (s.size : Int) := by omega
      obtain ⟨c, hc⟩ : ∃ c, (bn s)[i]?.getD 0 = c := ⟨_, rfl⟩
      have hx : ((s[i]'hlt).toNat : Int) = c := by rw [← HGT.out i hlt]; exact hc
      have hbd : 0 ≤ c ∧ c ≤ 255 := by rw [← hc]; exact HBY.out i hlt
      have HRi := hid (HRA.out i hlt)
      have HOi := hid (HON.out i hlt)
      rw [hc] at HRi HOi
      clear hc HGT HBY HRA HON HEN HA3 hA2
      by_cases h10 : c = 10
      · have hcb : (c == 10) = true := by simp [h10]
        have HN : Hid (bn y ++ rem ((bn s).drop (i + 1)) (n + 1) tn = P) := by
          have h := HR.out
          rw [HRi.out, h10, rem_nl] at h
          exact h
        clear HR HRi HOi hbd h10
        go_wp2
        go_roundw
        case rel => exact ⟨y, n + 1, i + 1, rfl, by go_num, by go_num, by omega, by omega, by omega, HN.out, K0.out, K1.out, K2.out, K3.out, HB.out⟩
        case measure => simp [intOf]; omega
      · have hcb : (c == 10) = false := by simp [h10]
        have k2 := K2.out
        by_cases hnt : n = tn
        · subst hnt
          have HN : Hid (bn (y ++ s.extract i (i + 1)) ++ rem ((bn s).drop (i + 1)) n n = P) := by
            have h := HR.out
            rw [HRi.out, rem_eq h10] at h
            show _ = _
            rw [bn_append, HOi.out, List.append_assoc]
            exact h
          have hes : (y ++ s.extract i (i + 1)).size ≤ i + 1 := by
            rw [ByteArray.size_append, ByteArray.size_extract]; omega
          have hsl := slice_one s i hlt
          clear HR HRi HOi hbd h10
          go_wp2
          go_roundw
          case rel => exact ⟨y ++ s.extract i (i + 1), n, i + 1, rfl, rfl, by go_num, by omega, by omega, hes, HN.out, K0.out, K1.out, K2.out, K3.out, HB.out⟩
          case measure => simp [intOf]; omega
        · have hntb : ((n : Int) == (tn : Int)) = false := by simp; omega
          have HN : Hid (bn y ++ rem ((bn s).drop (i + 1)) n tn = P) := by
            have h := HR.out
            rw [HRi.out, rem_ne h10 _ hnt] at h
            exact h
          clear HR HRi HOi hbd h10 hnt
          go_wp2
          go_roundw
          case rel => exact ⟨y, n, i + 1, rfl, rfl, by go_num, by omega, by omega, by omega, HN.out, K0.out, K1.out, K2.out, K3.out, HB.out⟩
          case measure => simp [intOf]; omega
    · have hltz : ¬ (i : Int) < (s.size : Int) := by omega
      obtain rfl : i = s.size := by omega
      have HY : Hid (bn y = P) := by
        have h := HR.out
        rw [HEN.out, List.append_nil] at h
        exact h
      have hyl : ta ≤ y.size := by
        have := congrArg List.length HY.out
        rw [bn_length] at this
        omega
      have g1 : ¬ (ta : Int) < 0 := by omega
      have g2 : ¬ (y.size : Int) < (ta : Int) := by omega
      have g3 : ¬ (tn : Int) < 1 := by omega
      have HX : Hid (bn (y.extract ta y.size) = P.drop ta) := by show _ = _; rw [bn_extract, HY.out]
      have k0 := K0.out
      have k1 := K1.out
      have k2 := K2.out
      have k3 := K3.out
      have hesz : (y.extract ta y.size).size ≤ 4096 := by rw [ByteArray.size_extract]; omega
      clear HR HEN HGT HBY HRA HON HY K0 K1 K2 K3
      by_cases h5 : k = 5
      · subst h5
        have HAx := hid (HAL.out wr HB.out)
        rcases HA3.out with ⟨_, hd⟩ | ⟨hne, _⟩
        rotate_left
        · exact absurd rfl hne
        clear HA3 HAL HG
        rcases hd with hd | hd
        · have hsz0 : (y.extract ta y.size).size = 0 := by rw [← bn_length, HX.out, hd]; rfl
          have hemp := isEmpty_true _ hsz0
          have hse : ((y.extract ta y.size).toList == (ByteArray.mk #[]).toList) = true := same_eq (HX.out.trans hd)
          clear hd hsz0 HX
          go_wp2_with fail
          refine HAx.out.mono ?_
          rintro e w7 ⟨rfl, B7⟩
          have HE := hid (HB.out.trans (B7.mono HB.out.size))
          clear HAx B7 HB
          go_wp2
          go_ret
          exact ⟨rfl, HE.out⟩
        · have hsz0 : 0 < (y.extract ta y.size).size := by rw [← bn_length, HX.out, hd]; decide
          have hemp := isEmpty_false _ hsz0
          have hl13 : (y.extract ta y.size).toList = [13] := (beq_iff_eq.1 (same_eq (b := ⟨#[13]⟩) (HX.out.trans hd))).trans (by rw [ByteArray.toList_eq])
          clear hd hsz0 HX
          go_wp2_with fail
          refine HAx.out.mono ?_
          rintro e w7 ⟨rfl, B7⟩
          have HE := hid (HB.out.trans (B7.mono HB.out.size))
          clear HAx B7 HB
          go_wp2
          go_ret
          exact ⟨rfl, HE.out⟩
      · have h5b : ((k : Int) == 5) = false := by simp; omega
        rcases HA3.out with ⟨hne, _⟩ | ⟨_, r, hr⟩
        · exact absurd hne h5
        have HYY : Hid (bn (y.extract ta y.size ++ ⟨#[10]⟩) = P.drop ta ++ [10]) := by show _ = _; rw [bn_append, HX.out]; rfl
        rw [← HYY.out] at hr
        have HRR := hid hr
        have hys : (y.extract ta y.size ++ (⟨#[10]⟩ : ByteArray)).size ≤ 5000 := by rw [ByteArray.size_append]; show _ + 1 ≤ _; omega
        have H4 := hid (lex_any (y.extract ta y.size ++ ⟨#[10]⟩) (by omega) wr (HG.out wr HB.out))
        clear hr HYY HX HA3 hys h5
        go_wp2_with fail
        refine H4.out.mono ?_
        rintro e w4 ⟨hq, B4⟩
        obtain ⟨b4, o4, l4, c4, hl4, rfl, q0, q1, q2, q3⟩ := ln_one HRR.out hq
        have B5 : Hid (Below wr.heap.size wr (w4.alloc (.cells #[.int .i64 0, .int .i64 0, .int .i64 0] 29))) := B4.alloc B4.size _
        have B6 : Hid (Below w4.heap.size w4 (w4.alloc (.cells #[.int .i64 0, .int .i64 0, .int .i64 0] 29))) := (Below.refl _ _).alloc (Nat.le_refl _) _
        have HB5 : Hid (Below w.heap.size w (w4.alloc (.cells #[.int .i64 0, .int .i64 0, .int .i64 0] 29))) := HB.out.trans (B5.out.mono HB.out.size)
        have hc8 : (w4.alloc (.cells #[.int .i64 0, .int .i64 0, .int .i64 0] 29)).cell? ⟨w4.heap.size, 0, none⟩ = some (.int .i64 0) := World.cell?_alloc_new w4 _ _ 0
        replace k0 := keeps B5.out k0
        replace k1 := keeps B5.out k1
        replace q0 := keeps B6.out q0
        replace q1 := keeps B6.out q1
        replace q2 := keeps B6.out q2
        replace q3 := keeps B6.out q3
        have HQ : ∀ w, (binOp .eql 35 (.agg #[.int .u8 (k : Int), .string x, .int .i64 1, .int .i64 0]) (.agg #[.int .u8 (k : Int), .string x, .int .i64 1, .int .i64 0])).run Tryd.prog w = .ok (.bool true) w := fun w => (eql_tok ⟨k, x, 1, 0⟩ ⟨k, x, 1, 0⟩ w).trans (by rw [eqt_iff.2 rfl])
        have hlz : (0 : Int) < (l4 : Int) := by omega
        have hne : Nonempty (Later (w4.alloc (.cells #[.int .i64 0, .int .i64 0, .int .i64 0] 29))) := ⟨⟨_, Below.refl _ _⟩⟩
        have y0 : ∀ z : Later (w4.alloc (.cells #[.int .i64 0, .int .i64 0, .int .i64 0] 29)), z.W.cell? ⟨w1.heap.size + 1, 0, none⟩ = some (.int .u8 (k : Int)) := fun z => z.keeps k0
        have y1 : ∀ z : Later (w4.alloc (.cells #[.int .i64 0, .int .i64 0, .int .i64 0] 29)), z.W.cell? ⟨w1.heap.size + 1, 1, none⟩ = some (.string x) := fun z => z.keeps k1
        have y8 : ∀ z : Later (w4.alloc (.cells #[.int .i64 0, .int .i64 0, .int .i64 0] 29)), z.W.cell? ⟨w4.heap.size, 0, none⟩ = some (.int .i64 0) := fun z => z.keeps hc8
        have z0 : ∀ z : Later (w4.alloc (.cells #[.int .i64 0, .int .i64 0, .int .i64 0] 29)), z.W.cell? ⟨b4, o4, none⟩ = some (.int .u8 (k : Int)) := fun z => z.keeps q0
        have z1 : ∀ z : Later (w4.alloc (.cells #[.int .i64 0, .int .i64 0, .int .i64 0] 29)), z.W.cell? ⟨b4, o4 + 1, none⟩ = some (.string x) := fun z => z.keeps q1
        have z2 : ∀ z : Later (w4.alloc (.cells #[.int .i64 0, .int .i64 0, .int .i64 0] 29)), z.W.cell? ⟨b4, o4 + 2, none⟩ = some (.int .i64 1) := fun z => z.keeps q2
        have z3 : ∀ z : Later (w4.alloc (.cells #[.int .i64 0, .int .i64 0, .int .i64 0] 29)), z.W.cell? ⟨b4, o4 + 3, none⟩ = some (.int .i64 0) := fun z => z.keeps q3
        have hk : ∀ z : Later (w4.alloc (.cells #[.int .i64 0, .int .i64 0, .int .i64 0] 29)), Below w.heap.size w z.W := fun z => HB5.out.trans (z.h.mono HB5.out.size)
        have HAd := hid (fun z : Later (w4.alloc (.cells #[.int .i64 0, .int .i64 0, .int .i64 0] 29)) => HAL.out z.W (hk z))
        have HKB := hid hk
        clear H4 HRR hq B4 B5 B6 HAL HG HB e0 e1 e2 e3 k0 k1 k2 k3 q0 q1 q2 q3 hc8 hc6 hk HB5
        go_wp2_with fail
        refine wp_region_quiet_in (by kernel_rfl) (by kernel_rfl) ?_
        repeat (go_big_quiet_step ((go_at_call 6; exact Later.call _ (HAd.out _))))
        refine wpQuiet_nil ?_
        rintro _ ⟨v, rfl⟩
        have HE := hid (HKB.out v)
        obtain ⟨w8, hw8⟩ : ∃ w8, w8 = v.W := ⟨_, rfl⟩
        rw [← hw8] at HE ⊢
        clear hw8 v HKB HAd y0 y1 y8 z0 z1 z2 z3 hne
        go_wp2
        go_ret
        exact ⟨rfl, HE.out⟩
end Go.Proofs.YtphkdagapoonjaaDoor.Lx
