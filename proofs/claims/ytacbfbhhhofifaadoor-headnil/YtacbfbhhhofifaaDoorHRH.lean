/- The document's Run. (Stage 19.) -/
import Derived.Test.YtacbfbhhhofifaaDoorHRF
import Derived.Test.YtacbfbhhhofifaaDoorHRG
namespace Go.Proofs.YtacbfbhhhofifaaDoor.Hd
open Go.RowKit
open Go.Proofs.YtacbfbhhhofifaaDoor.F (bn bn_length bn_append bn_inj bn_get byte_bd hid bn_extract isEmpty_false isEmpty_true str_eq same_eq)
set_option linter.unusedVariables false

/-- What the reader is, behind i bytes. -/
def RI (s : ByteArray) (w wr : World) (i bg : Nat) (bk is : Bool) : Prop :=
  ∃ (q : St) (M T : ByteArray) (v : Int) (F : Value) (fs : List Fb), go s0 ((bn s).take i) = q ∧ q.d = false ∧ q.e = 0 ∧ q.n = i ∧ q.cur = ((bn s).take i).drop bg ∧ bg ≤ i ∧ q.blk = bk ∧ q.is = is ∧ q.h = ⟨bn M, bn T, v, fs.map Fb.f⟩ ∧ fs.length ≤ 64 ∧ 0 ≤ v ∧ v ≤ 255 ∧
    wr.heap[w.heap.size]? = some (.cells #[.string ⟨#[]⟩, .string ⟨#[]⟩, .int .u8 0, .slice none 0 0] 27 (0, 0)) ∧ wr.heap[w.heap.size + 1]? = some (.cells #[.string M, .string T, .int .u8 v, F] 27 (0, 0)) ∧ FldOwn wr (w.heap.size + 2) F fs ∧ Below w.heap.size w wr ∧ w.heap.size + 2 ≤ wr.heap.size
/-- What Run answers. -/
def RnR (s : ByteArray) (W' : World) (e : Ending) : Prop := ∃ hv, e = .returned (.tuple #[.int .i64 (go s0 (bn s)).n, .bool (go s0 (bn s)).d, hv, .int .i64 (go s0 (bn s)).e]) ∧ HdIs W' hv (if (go s0 (bn s)).d = true then (go s0 (bn s)).h else h0)
theorem RnR.err {s : ByteArray} {W : World} {p : St} {N E : Int} (h : go s0 (bn s) = p) (hd : p.d = false) (hn : (p.n : Int) = N) (he : (p.e : Int) = E) : RnR s W (.returned (.tuple #[.int .i64 N, .bool false, .agg #[.string ⟨#[]⟩, .string ⟨#[]⟩, .int .u8 0, .slice none 0 0], .int .i64 E])) :=
  ⟨_, by rw [h, hd, hn, he], by rw [h, hd, if_neg (by decide)]; exact HdIs.zero W⟩
theorem RnR.done {s : ByteArray} {W : World} {p : St} {N : Int} {hv : Value} (h : go s0 (bn s) = p) (hd : p.d = true) (hn : (p.n : Int) = N) (he : p.e = 0) (hh : HdIs W hv p.h) : RnR s W (.returned (.tuple #[.int .i64 N, .bool true, hv, .int .i64 0])) :=
  ⟨hv, by rw [h, hd, hn, he]; rfl, by rw [h, hd, if_pos rfl]; exact hh⟩
set_option maxRecDepth 100000 in
set_option maxHeartbeats 8000000 in
theorem rrun_any (s : ByteArray) (hs : s.size ≤ 1000000) (w : World) : Calls Tryd.prog 10 #[.string s] w fun e W' => RnR s W' e ∧ Below w.heap.size w W' := by
  have HGT := hid (bn_get s)
  have HLN := hid (bn_length s)
  have HE := hid (fun L h W => rends_any L h W)
  go_enter Tryd.func10, Tryd.ntmps10
  go_wp2_with fail
  go_loopw [7, 8, 9, 10] (fun v7 v8 v9 v10 wr => ∃ (i bg : Nat) (bk is : Bool), i ≤ s.size ∧ v7 = .int .i64 (bg : Int) ∧ v8 = .bool bk ∧ v9 = .bool is ∧ v10 = .int .i64 (i : Int) ∧ RI s w wr i bg bk is) (fun _ _ _ v10 _ => s.size - (intOf v10).toNat)
  case atStart =>
    refine ⟨0, 0, false, false, Nat.zero_le _, rfl, rfl, rfl, rfl, s0, ⟨#[]⟩, ⟨#[]⟩, 0, .slice none 0 0, [], rfl, rfl, rfl, rfl, rfl, Nat.le_refl _, rfl, rfl, rfl, Nat.zero_le _, by decide, by decide, ?_, ?_, FldOwn.nil _ _, ?_, ?_⟩
    · exact kept (heap_alloc_last w _) ((Below.refl _ _).alloc (Nat.le_refl _) _)
    · have := heap_alloc_last (w.alloc (.cells #[.string ⟨#[]⟩, .string ⟨#[]⟩, .int .u8 0, .slice none 0 0] 27)) (.cells #[.string ⟨#[]⟩, .string ⟨#[]⟩, .int .u8 0, .slice none 0 0] 27)
      rw [World.size_alloc] at this
      exact this
    · exact ((Below.refl _ w).alloc (Nat.le_refl _) _).alloc (by simp) _
    · simp
  case round =>
    obtain ⟨i, bg, bk, is, hi, rfl, rfl, rfl, rfl, q, M, T, v, F, fs, hq, hqd, hqe, hqn, hqc, hbg, hqb, hqi, hqh, hfs, hv0, hv1, hz, hr, ho, hb, hsz⟩ := hrel
    have HZ := hid hz
    have HR := hid hr
    have HO := hid ho
    have HB := hid hb
    have HQ := hid (⟨hq, hqd, hqe, hqn, hqc, hqb, hqi, hqh⟩ : _ ∧ _ ∧ _ ∧ _ ∧ _ ∧ _ ∧ _ ∧ _)
    have HV : Hid (0 ≤ v ∧ v ≤ 255) := ⟨hv0, hv1⟩
    clear hq hqd hqe hqn hqc hqb hqi hqh hz hr ho hb hv0 hv1
    by_cases hlt : i < s.size
    · have hltz : (i : Int) < (s.size : Int) := by omega
      have hil : i < (bn s).length := by rw [HLN.out]; exact hlt
      obtain ⟨ha, hf⟩ := go_one hil HQ.out.1 HQ.out.2.1 HQ.out.2.2.1
      have HA := hid ha
      have HF := hid hf
      have hg := (HGT.out i hlt).symm
      have HDL := hid (drop_line hil hbg)
      have HDN := hid (drop_len hil hbg)
      rw [← HQ.out.2.2.2.2.1] at HDL HDN
      clear ha hf hil
      obtain ⟨y, hy⟩ : ∃ y, (bn s)[i]?.getD 0 = y := ⟨_, rfl⟩
      rw [hy] at hg HA HF HDL
      have HY := hid hy
      clear hy
      by_cases h1 : 16384 < i + 1
      · have h1z : 16384 < (i : Int) + 1 := by omega
        have HG : Hid (go s0 (bn s) = { q with n := q.n + 1, e := 195 }) := by
          have hst := step_many (s := q) (c := y) (by rw [HQ.out.2.2.2.1]; exact h1)
          exact (HF.out (by rw [hst]; exact .inr (by simp))).trans hst
        go_wp2_with (refine wpList_store_row rfl 27 (.tmp 4) (.tmp 32) rfl w.heap.size #[.string ⟨#[]⟩, .string ⟨#[]⟩, .int .u8 0, .slice none 0 0] (by first | rfl | kernel_rfl) (by first | rfl | kernel_rfl) 27 #[.string ⟨#[]⟩, .string ⟨#[]⟩, .int .u8 0, .slice none 0 0] HZ.out (info_hd _ _ _ _) rfl (by simp [Value.oneCell']) ?_)
        exact bodyPost_ret (results_run Tryd.results10 _ _ w.heap.size 27 #[.string ⟨#[]⟩, .string ⟨#[]⟩, .int .u8 0, .slice none 0 0] (0, 0) _ rfl (setRow_heap _ _ _ _ _ _ HZ.out) Tryd.underlying27 (info_hd _ _ _ _)) rfl ⟨RnR.err HG.out HQ.out.2.1 (by simp only [HQ.out.2.2.2.1]; omega) rfl, below_setRow HB.out (Nat.le_refl _) _⟩
      have h1z : ¬ 16384 < (i : Int) + 1 := by omega
      have H1 : Hid (¬ 16384 < q.n + 1) := by show ¬ _; rw [HQ.out.2.2.2.1]; exact h1
      by_cases hy10 : y = 10
      · obtain ⟨L, hL⟩ : ∃ L, s.extract bg (i + 1) = L := ⟨_, rfl⟩
        have hLs : L.size = i + 1 - bg := by rw [← hL, ByteArray.size_extract]; omega
        have HLB : Hid (bn L = q.cur ++ [y]) := by
          show _ = _
          rw [← hL, bn_mid, ← HDL.out, List.drop_take]
        have hsl : ∀ W, (Instr.slice 9 (.string s) (some (.int .i64 (bg : Int))) (some (.int .i64 ((i : Int) + 1))) none).run Tryd.prog W = .ok (.string L) W := fun W => by
          have := run_slice_string (P := Tryd.prog) W 9 s .i64 .i64 (bg : Int) ((i + 1 : Nat) : Int) Tryd.underlying9 (by omega) (by omega) (by omega)
          rw [← hL]
          simpa using this
        have hLm : L.size ≤ 1000000 := by omega
        clear hL
        go_wp2_with fail
        refine (HE.out L hLm _).mono ?_
        rintro e w5 ⟨rfl, rfl⟩
        clear HE hsl
        cases he : ends (bn L) with
        | false =>
          have HG : Hid (go s0 (bn s) = { q with n := q.n + 1, e := 191 }) := by
            have hst := step_bad (s := q) (c := y) H1.out hy10 (by rw [← HLB.out]; exact he)
            exact (HF.out (by rw [hst]; exact .inr (by simp))).trans hst
          clear he
          go_wp2_with (refine wpList_store_row rfl 27 (.tmp 4) (.tmp 62) rfl w.heap.size #[.string ⟨#[]⟩, .string ⟨#[]⟩, .int .u8 0, .slice none 0 0] (by first | rfl | kernel_rfl) (by first | rfl | kernel_rfl) 27 #[.string ⟨#[]⟩, .string ⟨#[]⟩, .int .u8 0, .slice none 0 0] HZ.out (info_hd _ _ _ _) rfl (by simp [Value.oneCell']) ?_)
          exact bodyPost_ret (results_run Tryd.results10 _ _ w.heap.size 27 #[.string ⟨#[]⟩, .string ⟨#[]⟩, .int .u8 0, .slice none 0 0] (0, 0) _ rfl (setRow_heap _ _ _ _ _ _ HZ.out) Tryd.underlying27 (info_hd _ _ _ _)) rfl ⟨RnR.err HG.out HQ.out.2.1 (by simp only [HQ.out.2.2.2.1]; omega) rfl, below_setRow HB.out (Nat.le_refl _) _⟩
        | true =>
          have hL2 : 2 ≤ L.size := by
            rcases Nat.lt_or_ge L.size 2 with h | h
            · rw [ends_few (by rw [bn_length]; exact h)] at he; cases he
            · exact h
          obtain ⟨l, hl⟩ : ∃ l, L.extract 0 (i + 1 - bg - 2) = l := ⟨_, rfl⟩
          have hls : l.size = i + 1 - bg - 2 := by rw [← hl, ByteArray.size_extract]; omega
          have hlb : bn l = (q.cur ++ [y]).take (q.cur.length + 1 - 2) := by rw [← hl, bn_take _ _ (by omega), HLB.out, HDN.out]
          have HST : Hid (step q y = fin { q with n := q.n + 1 } (bn l)) := by
            show _ = _
            rw [hlb]; exact step_fin H1.out hy10 (by rw [← HLB.out]; exact he)
          have hsl : ∀ W, (Instr.slice 9 (.string L) none (some (.int .i64 ((i : Int) + 1 - (bg : Int) - 2))) none).run Tryd.prog W = .ok (.string l) W := fun W => by
            have := run_slice_string_h (P := Tryd.prog) W 9 L Tryd.underlying9 .i64 ((i + 1 - bg - 2 : Nat) : Int) (by omega) (by omega)
            rw [← hl]
            have e : ((i + 1 - bg - 2 : Nat) : Int) = (i : Int) + 1 - (bg : Int) - 2 := by omega
            rw [e, show ((i : Int) + 1 - (bg : Int) - 2).toNat = i + 1 - bg - 2 by omega] at this
            exact this
          clear hl hlb he HLB
          have HLL : Hid (l.size ≤ 1000000) := by show _ ≤ _; omega
          go_upto_region 21 with fail
          obtain ⟨u, hu⟩ : ∃ u, (!is && decide (l.size = 0) && !bk) = u := ⟨_, rfl⟩
          have HU := hid hu
          clear hu hls
          go_cut [76] from 67 to 76 (fun v76 wc => v76 = .bool u ∧ wc = w5)
          case first =>
            clear HST HF HA HDL HDN HY HGT HLN HLL
            cases is with
            | true =>
              have HX : Hid (u = false) := by show _ = _; rw [← HU.out]; rfl
              clear HU
              go_wp2
              go_meet
              case rel => exact ⟨by rw [HX.out] <;> rfl, by first | rfl | trivial⟩
            | false =>
              by_cases h0 : l.size = 0
              · have hne := isEmpty_true l h0
                have HX : Hid (u = !bk) := by show _ = _; rw [← HU.out, decide_eq_true h0]; rfl
                clear HU
                cases bk with
                | true =>
                  go_wp2
                  go_meet
                  case rel => exact ⟨by rw [HX.out] <;> rfl, by first | rfl | trivial⟩
                | false =>
                  go_wp2
                  go_meet
                  case rel => exact ⟨by rw [HX.out] <;> rfl, by first | rfl | trivial⟩
              · have hne := isEmpty_false l (by omega)
                have HX : Hid (u = false) := by show _ = _; rw [← HU.out, decide_eq_false h0]; rfl
                clear HU
                go_wp2
                go_meet
                case rel => exact ⟨by rw [HX.out] <;> rfl, by first | rfl | trivial⟩
          case rest =>
            obtain ⟨rfl, rfl⟩ := hcut
            have HLE : Hid (bn l = [] ↔ l.size = 0) := by
              show _ ↔ _
              rw [← bn_length, List.length_eq_zero_iff]
            have hdr : Hid ((((bn s).take (i + 1)).drop (i + 1)) = []) := List.drop_eq_nil_of_le (by simp; omega)
            clear HDL HDN HY HGT
            cases u with
            | true =>
              have hu := HU.out
              clear HU
              obtain ⟨⟨h1', h2'⟩, h3'⟩ : (is = false ∧ l.size = 0) ∧ bk = false := by simpa using hu
              have HN : Hid (step q y = { q with n := q.n + 1, cur := [], blk := true }) := HST.out.trans (fin_blank (by simp only; rw [HQ.out.2.2.2.2.2.2.1]; exact h1') (HLE.out.2 h2') (by simp only; rw [HQ.out.2.2.2.2.2.1]; exact h3'))
              clear HST HF hu h1' h2' h3'
              go_wp2
              go_roundw
              case rel => exact ⟨i + 1, i + 1, true, is, by omega, by go_num, rfl, rfl, by go_num, _, M, T, v, F, fs, HA.out.trans HN.out, HQ.out.2.1, HQ.out.2.2.1, congrArg (· + 1) HQ.out.2.2.2.1, hdr.out.symm, Nat.le_refl _, rfl, HQ.out.2.2.2.2.2.2.1, HQ.out.2.2.2.2.2.2.2, hfs, HV.out.1, HV.out.2, HZ.out, HR.out, HO.out, HB.out, hsz⟩
              case measure => simp [intOf]; omega
            | false =>
              cases is with
              | false =>
                have HNB : Hid (¬ (bn l = [] ∧ q.blk = false)) := by
                  show ¬ _
                  rintro ⟨x1, x2⟩
                  have hu := HU.out
                  rw [← HQ.out.2.2.2.2.2.1, x2, decide_eq_true (HLE.out.1 x1)] at hu
                  cases hu
                clear HU
                by_cases h4 : 4096 < l.size
                · have HG : Hid (go s0 (bn s) = { q with n := q.n + 1, e := 194 }) := by
                    have hst := HST.out.trans (fin_target (s := { q with n := q.n + 1 }) HQ.out.2.2.2.2.2.2.1 HNB.out (by rw [bn_length]; exact h4))
                    exact (HF.out (by rw [hst]; exact .inr (by simp))).trans hst
                  have h4z : 4096 < (l.size : Int) := by omega
                  clear HST HF HA HNB
                  go_wp2_with (refine wpList_store_row rfl 27 (.tmp 4) (.tmp 84) rfl w.heap.size #[.string ⟨#[]⟩, .string ⟨#[]⟩, .int .u8 0, .slice none 0 0] (by first | rfl | kernel_rfl) (by first | rfl | kernel_rfl) 27 #[.string ⟨#[]⟩, .string ⟨#[]⟩, .int .u8 0, .slice none 0 0] HZ.out (info_hd _ _ _ _) rfl (by simp [Value.oneCell']) ?_)
                  exact bodyPost_ret (results_run Tryd.results10 _ _ w.heap.size 27 #[.string ⟨#[]⟩, .string ⟨#[]⟩, .int .u8 0, .slice none 0 0] (0, 0) _ rfl (setRow_heap _ _ _ _ _ _ HZ.out) Tryd.underlying27 (info_hd _ _ _ _)) rfl ⟨RnR.err HG.out HQ.out.2.1 (by simp only [HQ.out.2.2.2.1]; omega) rfl, below_setRow HB.out (Nat.le_refl _) _⟩
                · have h4z : ¬ 4096 < (l.size : Int) := by omega
                  have H4 : Hid (¬ 4096 < (bn l).length) := by show ¬ _; rw [bn_length]; exact h4
                  go_wp2_with fail
                  refine (rfirst_any l HLL.out _).mono ?_
                  rintro e w6 ⟨⟨M', T', v', E, hfr, hv0, hv1, rfl⟩, B6⟩
                  have HFR := hid hfr
                  have HZ6 := hid (kept HZ.out B6)
                  have HR6 := hid (kept HR.out B6)
                  have HB6 := hid (HB.out.trans (B6.mono HB.out.size))
                  have hsz6 : w.heap.size + 2 ≤ w6.heap.size := Nat.le_trans hsz B6.size
                  clear HZ HR HB B6 hfr HO
                  by_cases hE : E = 0
                  · have HN : Hid (step q y = { q with n := q.n + 1, cur := [], is := true, h := ⟨bn M', bn T', v', []⟩ }) := by
                      have hst := HST.out.trans (fin_first (s := { q with n := q.n + 1 }) HQ.out.2.2.2.2.2.2.1 HNB.out H4.out (by rw [HFR.out]; exact hE))
                      rw [HFR.out] at hst
                      exact hst
                    have hEz : ((E : Int) != 0) = false := by rw [hE]; rfl
                    have HZ := hid (kept HZ6.out ((Below.refl w6.heap.size w6).alloc (Nat.le_refl _) (.cells #[.string M', .string T', .int .u8 v', .slice none 0 0] 27)))
                    have HR := hid (kept HR6.out ((Below.refl w6.heap.size w6).alloc (Nat.le_refl _) (.cells #[.string M', .string T', .int .u8 v', .slice none 0 0] 27)))
                    have HB := hid (HB6.out.alloc HB6.out.size (.cells #[.string M', .string T', .int .u8 v', .slice none 0 0] 27))
                    clear HST HF HNB HFR H4 HZ6 HB6 hE HR6
                    go_wp2_with (refine wpList_store_row rfl 27 (.tmp 6) (.tmp 96) rfl (w.heap.size + 1) #[.string M', .string T', .int .u8 v', .slice none 0 0] (by first | rfl | kernel_rfl) (by first | rfl | kernel_rfl) 27 #[.string M, .string T, .int .u8 v, F] HR.out (info_hd _ _ _ _) rfl (by simp [Value.oneCell']) ?_)
                    go_roundw
                    case rel => exact ⟨i + 1, i + 1, bk, true, by omega, by go_num, rfl, rfl, by go_num, _, M', T', v', .slice none 0 0, [], HA.out.trans HN.out, HQ.out.2.1, HQ.out.2.2.1, congrArg (· + 1) HQ.out.2.2.2.1, hdr.out.symm, Nat.le_refl _, HQ.out.2.2.2.2.2.1, rfl, rfl, Nat.zero_le _, hv0, hv1, (setRow_other _ _ _ _ (by omega)).trans HZ.out, setRow_heap _ _ _ _ _ _ HR.out, FldOwn.nil _ _, below_setRow HB.out (by omega) _, by simp; omega⟩
                    case measure => simp [intOf]; omega
                  · have HG : Hid (go s0 (bn s) = { q with n := q.n + 1, e := E }) := by
                      have hst := HST.out.trans (fin_first_no (s := { q with n := q.n + 1 }) HQ.out.2.2.2.2.2.2.1 HNB.out H4.out (by rw [HFR.out]; exact hE))
                      rw [HFR.out] at hst
                      exact (HF.out (by rw [hst]; exact .inr hE)).trans hst
                    have hEz : ((E : Int) == 0) = false := by simpa using hE
                    have HZ := hid (kept HZ6.out ((Below.refl w6.heap.size w6).alloc (Nat.le_refl _) (.cells #[.string M', .string T', .int .u8 v', .slice none 0 0] 27)))
                    have HB := hid (HB6.out.alloc HB6.out.size (.cells #[.string M', .string T', .int .u8 v', .slice none 0 0] 27))
                    clear HST HF HA HNB HFR H4 HZ6 HB6 hE
                    go_wp2_with (refine wpList_store_row rfl 27 (.tmp 4) (.tmp 94) rfl w.heap.size #[.string ⟨#[]⟩, .string ⟨#[]⟩, .int .u8 0, .slice none 0 0] (by first | rfl | kernel_rfl) (by first | rfl | kernel_rfl) 27 #[.string ⟨#[]⟩, .string ⟨#[]⟩, .int .u8 0, .slice none 0 0] HZ.out (info_hd _ _ _ _) rfl (by simp [Value.oneCell']) ?_)
                    exact bodyPost_ret (results_run Tryd.results10 _ _ w.heap.size 27 #[.string ⟨#[]⟩, .string ⟨#[]⟩, .int .u8 0, .slice none 0 0] (0, 0) _ rfl (setRow_heap _ _ _ _ _ _ HZ.out) Tryd.underlying27 (info_hd _ _ _ _)) rfl ⟨RnR.err HG.out HQ.out.2.1 (by simp only [HQ.out.2.2.2.1]; omega) rfl, below_setRow HB.out (Nat.le_refl _) _⟩
              | true =>
                obtain ⟨ao, cap, rfl⟩ := HO.out.form
                have HIS : Hid (q.is = true) := HQ.out.2.2.2.2.2.2.1
                clear HU
                by_cases h0 : l.size = 0
                · have HG : Hid (go s0 (bn s) = { q with n := q.n + 1, d := true }) := by
                    have hst := HST.out.trans (fin_done (s := { q with n := q.n + 1 }) HIS.out (HLE.out.2 h0))
                    exact (HF.out (by rw [hst]; exact .inl rfl)).trans hst
                  have hne := isEmpty_true l h0
                  clear HST HF HA
                  go_wp2_with fail
                  refine E.wp_region_pick [0, 1, 3, 4] [2, 5, 6] (by kernel_rfl) (by kernel_rfl) ?_
                  simp only [E.sel, List.filterMap_cons, List.filterMap_nil, List.getElem?_cons_succ, List.getElem?_cons_zero]
                  have hw1 : IntKind.i64.wrap ((i : Int) + 1) = (i : Int) + 1 := by simp [IntKind.wrap, IntKind.bits, IntKind.signed]; omega
                  refine E.wpFree_val (.int .i64 (i : Int)) rfl (fun W => by go_simp) ?_
                  refine E.wpFree_val (.int .i64 ((i : Int) + 1)) rfl (fun W => by go_simp <;> first | exact hw1 | omega) ?_
                  refine E.wpFree_val (.int .i64 ((i : Int) + 1)) rfl (fun W => by go_simp) ?_
                  refine E.wpFree_val (.bool true) rfl (fun W => by go_simp) ?_
                  refine E.wpFree_nil ?_
                  show wpList _ _ _ _ _ (World.drew _)
                  have hrow : (World.drew wc).heap[w.heap.size + 1]? = some (.cells #[.string M, .string T, .int .u8 v, .slice ao fs.length cap] 27 (0, 0)) := HR.out
                  have HZ : Hid ((World.drew wc).heap[w.heap.size]? = some (.cells #[.string ⟨#[]⟩, .string ⟨#[]⟩, .int .u8 0, .slice none 0 0] 27 (0, 0))) := HZ.out
                  refine wpList_load_row rfl 27 (.tmp 6) rfl (w.heap.size + 1) rfl 27 #[.string M, .string T, .int .u8 v, .slice ao fs.length cap] (0, 0) _ hrow Tryd.underlying27 rfl (info_hd _ _ _ _) ?_
                  refine wpList_store_row rfl 27 (.tmp 4) (.tmp 101) rfl w.heap.size #[.string M, .string T, .int .u8 v, .slice ao fs.length cap] rfl rfl 27 #[.string ⟨#[]⟩, .string ⟨#[]⟩, .int .u8 0, .slice none 0 0] HZ.out (info_hd _ _ _ _) rfl (by simp [Value.oneCell']) ?_
                  go_wp2
                  refine ⟨rfl, ?_⟩
                  go_wp2
                  have HOW : Hid (FldOwn ((World.drew wc).setRow w.heap.size #[.string M, .string T, .int .u8 v, .slice ao fs.length cap]) (w.heap.size + 2) (.slice ao fs.length cap) fs) := HO.out.keep fun g hg _ => setRow_other _ _ _ _ (by omega)
                  exact bodyPost_ret (results_run Tryd.results10 _ _ w.heap.size 27 #[.string M, .string T, .int .u8 v, .slice ao fs.length cap] (0, 0) _ rfl (setRow_heap _ _ _ _ _ _ HZ.out) Tryd.underlying27 (info_hd _ _ _ _)) rfl ⟨RnR.done HG.out rfl (by simp only [HQ.out.2.2.2.1]; omega) HQ.out.2.2.1 ⟨M, T, v, _, fs, rfl, HOW.out.at, hfs, HV.out.1, HV.out.2, HQ.out.2.2.2.2.2.2.2⟩, below_setRow (below_drew HB.out) (Nat.le_refl _) _⟩
                · have hne := isEmpty_false l (by omega)
                  have HNE : Hid (bn l ≠ []) := fun h => h0 (HLE.out.1 h)
                  have hfl : Hid (q.h.f.length = fs.length) := by show _ = _; rw [HQ.out.2.2.2.2.2.2.2]; exact List.length_map ..
                  by_cases h4 : 4096 < l.size
                  · have HG : Hid (go s0 (bn s) = { q with n := q.n + 1, e := 195 }) := by
                      have hst := HST.out.trans (fin_many (s := { q with n := q.n + 1 }) HIS.out HNE.out (.inl (by rw [bn_length]; exact h4)))
                      exact (HF.out (by rw [hst]; exact .inr (by simp))).trans hst
                    have h4z : 4096 < (l.size : Int) := by omega
                    clear HST HF HA
                    go_wp2_with (refine wpList_store_row rfl 27 (.tmp 4) (.tmp 113) rfl w.heap.size #[.string ⟨#[]⟩, .string ⟨#[]⟩, .int .u8 0, .slice none 0 0] (by first | rfl | kernel_rfl) (by first | rfl | kernel_rfl) 27 #[.string ⟨#[]⟩, .string ⟨#[]⟩, .int .u8 0, .slice none 0 0] HZ.out (info_hd _ _ _ _) rfl (by simp [Value.oneCell']) ?_)
                    exact bodyPost_ret (results_run Tryd.results10 _ _ w.heap.size 27 #[.string ⟨#[]⟩, .string ⟨#[]⟩, .int .u8 0, .slice none 0 0] (0, 0) _ rfl (setRow_heap _ _ _ _ _ _ HZ.out) Tryd.underlying27 (info_hd _ _ _ _)) rfl ⟨RnR.err HG.out HQ.out.2.1 (by simp only [HQ.out.2.2.2.1]; omega) rfl, below_setRow HB.out (Nat.le_refl _) _⟩
                  have h4z : ¬ 4096 < (l.size : Int) := by omega
                  have h4d : decide (4096 < (l.size : Int)) = false := decide_eq_false h4z
                  have k3 := cell_of_row _ _ 3 _ _ _ HR.out
                  simp only [List.getElem?_toArray, List.getElem?_cons_succ, List.getElem?_cons_zero] at k3
                  by_cases h64 : 64 ≤ fs.length
                  · have HG : Hid (go s0 (bn s) = { q with n := q.n + 1, e := 195 }) := by
                      have hst := HST.out.trans (fin_many (s := { q with n := q.n + 1 }) HIS.out HNE.out (.inr (by simp only; rw [hfl.out]; exact h64)))
                      exact (HF.out (by rw [hst]; exact .inr (by simp))).trans hst
                    have h6z : 64 ≤ (fs.length : Int) := by omega
                    clear HST HF HA
                    go_wp2_with (refine wpList_store_row rfl 27 (.tmp 4) (.tmp 113) rfl w.heap.size #[.string ⟨#[]⟩, .string ⟨#[]⟩, .int .u8 0, .slice none 0 0] (by first | rfl | kernel_rfl) (by first | rfl | kernel_rfl) 27 #[.string ⟨#[]⟩, .string ⟨#[]⟩, .int .u8 0, .slice none 0 0] HZ.out (info_hd _ _ _ _) rfl (by simp [Value.oneCell']) ?_)
                    exact bodyPost_ret (results_run Tryd.results10 _ _ w.heap.size 27 #[.string ⟨#[]⟩, .string ⟨#[]⟩, .int .u8 0, .slice none 0 0] (0, 0) _ rfl (setRow_heap _ _ _ _ _ _ HZ.out) Tryd.underlying27 (info_hd _ _ _ _)) rfl ⟨RnR.err HG.out HQ.out.2.1 (by simp only [HQ.out.2.2.2.1]; omega) rfl, below_setRow HB.out (Nat.le_refl _) _⟩
                  have h6z : ¬ 64 ≤ (fs.length : Int) := by omega
                  have HNM : Hid (¬ (4096 < (bn l).length ∨ 64 ≤ q.h.f.length)) := by show ¬ _; rw [bn_length, hfl.out]; omega
                  go_wp2_with fail
                  refine (rfield_any l HLL.out _).mono ?_
                  rintro e w6 ⟨⟨N, V, ok, hno, hyes, rfl⟩, B6⟩
                  have HZ6 := hid (kept HZ.out B6)
                  have HR6 := hid (kept HR.out B6)
                  have HO6 := hid (HO.out.below B6)
                  have HB6 := hid (HB.out.trans (B6.mono HB.out.size))
                  have hsz6 : w.heap.size + 2 ≤ w6.heap.size := Nat.le_trans hsz B6.size
                  have HZ := hid (kept HZ6.out ((Below.refl w6.heap.size w6).alloc (Nat.le_refl _) (.cells #[.string N, .string V] 40)))
                  have HB := hid (HB6.out.alloc HB6.out.size (.cells #[.string N, .string V] 40))
                  clear k3 B6 hsl hne
                  cases ok with
                  | false =>
                    have HG : Hid (go s0 (bn s) = { q with n := q.n + 1, e := 193 }) := by
                      have hst := HST.out.trans (fin_field_no (s := { q with n := q.n + 1 }) HIS.out HNE.out HNM.out (hno rfl))
                      exact (HF.out (by rw [hst]; exact .inr (by simp))).trans hst
                    clear HST HF HA HZ6 HR6 HO6 HB6 hno hyes
                    go_wp2_with (refine wpList_store_row rfl 27 (.tmp 4) (.tmp 123) rfl w.heap.size #[.string ⟨#[]⟩, .string ⟨#[]⟩, .int .u8 0, .slice none 0 0] (by first | rfl | kernel_rfl) (by first | rfl | kernel_rfl) 27 #[.string ⟨#[]⟩, .string ⟨#[]⟩, .int .u8 0, .slice none 0 0] HZ.out (info_hd _ _ _ _) rfl (by simp [Value.oneCell']) ?_)
                    exact bodyPost_ret (results_run Tryd.results10 _ _ w.heap.size 27 #[.string ⟨#[]⟩, .string ⟨#[]⟩, .int .u8 0, .slice none 0 0] (0, 0) _ rfl (setRow_heap _ _ _ _ _ _ HZ.out) Tryd.underlying27 (info_hd _ _ _ _)) rfl ⟨RnR.err HG.out HQ.out.2.1 (by simp only [HQ.out.2.2.2.1]; omega) rfl, below_setRow HB.out (Nat.le_refl _) _⟩
                  | true =>
                    have HN : Hid (step q y = { q with n := q.n + 1, cur := [], h := { q.h with f := q.h.f ++ [(bn N, bn V)] } }) := HST.out.trans (fin_field (s := { q with n := q.n + 1 }) HIS.out HNE.out HNM.out (hyes rfl))
                    have HR := hid (kept HR6.out ((Below.refl w6.heap.size w6).alloc (Nat.le_refl _) (.cells #[.string N, .string V] 40)))
                    have HO := hid (HO6.out.alloc (.cells #[.string N, .string V] 40))
                    clear HST HF HZ6 HR6 HO6 HB6 hno hyes
                    have k3 := cell_of_row _ _ 3 _ _ _ HR.out
                    simp only [List.getElem?_toArray, List.getElem?_cons_succ, List.getElem?_cons_zero] at k3
                    have HFA := hid (fld_new2 w6 (.cells #[.string N, .string V] 40) ⟨N, V⟩)
                    have hll : fs.length + [(⟨N, V⟩ : Fb)].length ≤ 1000000000 := by simp; omega
                    have hsz8 : w.heap.size + 2 ≤ ((w6.alloc (.cells #[.string N, .string V] 40)).alloc (.cells #[.string N, .string V] 40)).heap.size := by simp; omega
                    have HKP : Hid (∀ w9 : World, ((w6.alloc (.cells #[.string N, .string V] 40)).alloc (.cells #[.string N, .string V] 40)).grownBy w9 (Value.slice ao fs.length cap).ownBlock → ∀ j, j < w.heap.size + 2 → w9.heap[j]? = ((w6.alloc (.cells #[.string N, .string V] 40)).alloc (.cells #[.string N, .string V] 40)).heap[j]?) := fun w9 g' j hj => g'.block j (by simp; omega) (fun e => by have := ((HO.out.alloc (.cells #[.string N, .string V] 40)).own _ e.symm).1; omega)
                    have HR8 := hid (kept HR.out ((Below.refl _ (w6.alloc (.cells #[.string N, .string V] 40))).alloc (Nat.le_refl _) (.cells #[.string N, .string V] 40)))
                    have HZ8 := hid (kept HZ.out ((Below.refl _ (w6.alloc (.cells #[.string N, .string V] 40))).alloc (Nat.le_refl _) (.cells #[.string N, .string V] 40)))
                    have HB8 := hid (HB.out.alloc HB.out.size (.cells #[.string N, .string V] 40))
                    go_wp2_with (at_builtin; refine wpList_append_flds rfl _ _ rfl (w.heap.size + 2) _ fs rfl (HO.out.alloc _) _ [⟨N, V⟩] rfl HFA.out hll hsz8 ?_; intro v' w9 r' g'; obtain ⟨ao2, cap2, rfl⟩ := r'.form; have HR' := hid r'; have HR9 := hid ((HKP.out w9 g' _ (by omega)).trans HR8.out); have HZ9 := hid ((HKP.out w9 g' _ (by omega)).trans HZ8.out); have HB9 := hid (below_grow HB8.out (by omega) (by omega) (HO.out.alloc _) g'); have hsz9 := g'.size; have c3 := cell_of_row _ _ 3 _ _ _ HR9.out; have f3 := frozen_of_row _ _ 3 _ _ HR9.out; clear r' g')
                    have HQH : Hid (({ q.h with f := q.h.f ++ [(bn N, bn V)] } : H) = ⟨bn M, bn T, v, (fs ++ [(⟨N, V⟩ : Fb)]).map Fb.f⟩) := by
                      show _ = _
                      rw [HQ.out.2.2.2.2.2.2.2, List.map_append]; rfl
                    have HOW : Hid (FldOwn w9 (w.heap.size + 2) (.slice ao2 (fs.length + 1) cap2) (fs ++ [⟨N, V⟩])) := by
                      have h := HR'.out
                      rw [List.length_append] at h
                      exact h
                    go_roundw
                    case rel => exact ⟨i + 1, i + 1, bk, true, by omega, by go_num, rfl, rfl, by go_num, _, M, T, v, .slice ao2 (fs.length + 1) cap2, fs ++ [⟨N, V⟩], HA.out.trans HN.out, HQ.out.2.1, HQ.out.2.2.1, congrArg (· + 1) HQ.out.2.2.2.1, hdr.out.symm, Nat.le_refl _, HQ.out.2.2.2.2.2.1, HIS.out, HQH.out, by simp; omega, HV.out.1, HV.out.2, (heap_setCell_other _ _ _ _ (by simp)).trans HZ9.out, Lib.heap_setCell_same HR9.out _, HOW.out.keep (fun g hg _ => heap_setCell_other _ _ _ _ (by simp; omega)), HB9.out.setCell (by simp) _, by simp [World.setCell]; omega⟩
                    case measure => simp [intOf]; omega
      · have b10 : (y == 10) = false := by simpa using hy10
        by_cases h2 : 4097 < i + 1 - bg
        · have h2z : 4097 < (i : Int) + 1 - (bg : Int) := by omega
          have HG : Hid (go s0 (bn s) = { q with n := q.n + 1, e := if q.is = true then 195 else 194 }) := by
            have hst := step_long (s := q) (c := y) H1.out hy10 (by rw [HDN.out]; exact h2)
            exact (HF.out (by rw [hst]; exact .inr (by simp only; split <;> decide))).trans hst
          cases is with
          | true =>
            rw [HQ.out.2.2.2.2.2.2.1, if_pos rfl] at HG
            go_wp2_with (refine wpList_store_row rfl 27 (.tmp 4) (.tmp 44) rfl w.heap.size #[.string ⟨#[]⟩, .string ⟨#[]⟩, .int .u8 0, .slice none 0 0] (by first | rfl | kernel_rfl) (by first | rfl | kernel_rfl) 27 #[.string ⟨#[]⟩, .string ⟨#[]⟩, .int .u8 0, .slice none 0 0] HZ.out (info_hd _ _ _ _) rfl (by simp [Value.oneCell']) ?_)
            exact bodyPost_ret (results_run Tryd.results10 _ _ w.heap.size 27 #[.string ⟨#[]⟩, .string ⟨#[]⟩, .int .u8 0, .slice none 0 0] (0, 0) _ rfl (setRow_heap _ _ _ _ _ _ HZ.out) Tryd.underlying27 (info_hd _ _ _ _)) rfl ⟨RnR.err HG.out HQ.out.2.1 (by simp only [HQ.out.2.2.2.1]; omega) rfl, below_setRow HB.out (Nat.le_refl _) _⟩
          | false =>
            rw [HQ.out.2.2.2.2.2.2.1, if_neg (by decide)] at HG
            go_wp2_with (refine wpList_store_row rfl 27 (.tmp 4) (.tmp 49) rfl w.heap.size #[.string ⟨#[]⟩, .string ⟨#[]⟩, .int .u8 0, .slice none 0 0] (by first | rfl | kernel_rfl) (by first | rfl | kernel_rfl) 27 #[.string ⟨#[]⟩, .string ⟨#[]⟩, .int .u8 0, .slice none 0 0] HZ.out (info_hd _ _ _ _) rfl (by simp [Value.oneCell']) ?_)
            exact bodyPost_ret (results_run Tryd.results10 _ _ w.heap.size 27 #[.string ⟨#[]⟩, .string ⟨#[]⟩, .int .u8 0, .slice none 0 0] (0, 0) _ rfl (setRow_heap _ _ _ _ _ _ HZ.out) Tryd.underlying27 (info_hd _ _ _ _)) rfl ⟨RnR.err HG.out HQ.out.2.1 (by simp only [HQ.out.2.2.2.1]; omega) rfl, below_setRow HB.out (Nat.le_refl _) _⟩
        · have h2z : ¬ 4097 < (i : Int) + 1 - (bg : Int) := by omega
          have HN : Hid (step q y = { q with cur := q.cur ++ [y], n := q.n + 1 }) := step_char H1.out hy10 (by rw [HDN.out]; exact h2)
          clear HF
          go_wp2
          go_roundw
          case rel => exact ⟨i + 1, bg, bk, is, by omega, rfl, rfl, rfl, by go_num, _, M, T, v, F, fs, HA.out.trans HN.out, HQ.out.2.1, HQ.out.2.2.1, congrArg (· + 1) HQ.out.2.2.2.1, HDL.out.symm, by omega, HQ.out.2.2.2.2.2.1, HQ.out.2.2.2.2.2.2.1, HQ.out.2.2.2.2.2.2.2, hfs, HV.out.1, HV.out.2, HZ.out, HR.out, HO.out, HB.out, hsz⟩
          case measure => simp [intOf]; omega
    · have hltz : ¬ (i : Int) < (s.size : Int) := by omega
      obtain rfl : i = s.size := by omega
      have HG : Hid (go s0 (bn s) = q) := by
        have := HQ.out.1
        rw [← HLN.out, List.take_length] at this
        exact this
      have hd := HQ.out.2.1
      go_wp2_with (refine wpList_store_row rfl 27 (.tmp 4) (.tmp 132) rfl w.heap.size #[.string ⟨#[]⟩, .string ⟨#[]⟩, .int .u8 0, .slice none 0 0] (by first | rfl | kernel_rfl) (by first | rfl | kernel_rfl) 27 #[.string ⟨#[]⟩, .string ⟨#[]⟩, .int .u8 0, .slice none 0 0] HZ.out (info_hd _ _ _ _) rfl (by simp [Value.oneCell']) ?_)
      exact bodyPost_ret (results_run Tryd.results10 _ _ w.heap.size 27 #[.string ⟨#[]⟩, .string ⟨#[]⟩, .int .u8 0, .slice none 0 0] (0, 0) _ rfl (setRow_heap _ _ _ _ _ _ HZ.out) Tryd.underlying27 (info_hd _ _ _ _)) rfl ⟨RnR.err HG.out HQ.out.2.1 (by rw [HQ.out.2.2.2.1]) (by rw [HQ.out.2.2.1]; rfl), below_setRow HB.out (Nat.le_refl _) _⟩
end Go.Proofs.YtacbfbhhhofifaaDoor.Hd
