/- HeadWrites. (Stage 19.) -/
import Derived.Test.YtacbfbhhhofifaaDoorHLD
import Derived.Test.YtacbfbhhhofifaaDoorHXB
import Derived.Laws.BitsAllLaws
namespace Go.Proofs.YtacbfbhhhofifaaDoor.Hd
open Go.RowKit
open Go.Proofs.YtacbfbhhhofifaaDoor.F (bn bn_length bn_append bn_inj bn_get byte_bd hid bn_extract isEmpty_false isEmpty_true str_eq same_eq)
set_option linter.unusedVariables false

/-- Bytes that were handed in. -/
def U8s (W : World) (v : Value) (ps : List Nat) : Prop := ∃ (a : Option Addr) (cap : Nat), v = .slice a ps.length cap ∧ (0 < ps.length → ∃ b off, a = some ⟨b, off, none⟩ ∧ ∀ j, j < ps.length → W.cell? ⟨b, off + j, none⟩ = some (.int .u8 ((ps[j]?.getD 0 : Nat) : Int)))
theorem conv_text {W : World} {g n c : Nat} {l : List Int} (hn : n = l.length) (hb : ∀ x ∈ l, 0 ≤ x ∧ x ≤ 255) (hc : ∀ j, j < l.length → W.cell? ⟨g, j, none⟩ = some (.int .u8 (l[j]?.getD 0))) : ∃ t : ByteArray, (convert 38 9 (.slice (some ⟨g, 0, none⟩) n c)).run Tryd.prog W = .ok (.string t) W ∧ bn t = l := by
  subst hn
  refine ⟨⟨(l.map fun n => UInt8.ofNat n.toNat).toArray⟩, ?_, ?_⟩
  · have := run_convert_bytes_back (P := Tryd.prog) W 38 9 5 ⟨g, 0, none⟩ c (l.map fun n => UInt8.ofNat n.toNat) Tryd.underlying38 Tryd.underlying5 Tryd.underlying9 (by
      intro j hj
      have hj' : j < l.length := by simpa using hj
      have hbj := hb l[j] (List.getElem_mem hj')
      rw [addr_plus, Nat.zero_add, hc j hj', List.getElem?_eq_getElem hj']
      simp only [Option.getD_some, List.getElem_map, UInt8.toNat_ofNat']
      congr 2
      omega)
    rw [List.length_map] at this
    exact this
  · unfold bn
    simp only
    rw [List.map_map]
    conv => rhs; rw [← List.map_id l]
    apply List.map_congr_left
    intro x hx
    have := hb x hx
    simp; omega
theorem wf_snoc (r : List (List Int × List Int × List Int)) (x : List Int × List Int × List Int) : wf (r ++ [x]) = wf r ++ ((x.1 ++ 58 :: (x.2.2 ++ (x.2.1 ++ x.2.2))) ++ [13, 10]) := by
  induction r with
  | nil => simp [wf]
  | cons y r ih => rw [List.cons_append, wf, wf, ih]; simp
/-- What was written of a head, behind some fields. -/
def WI (h : H) (fs : List Fb) (S : ByteArray) (i : Nat) : Prop := ∃ r : List (List Int × List Int × List Int), bn S = wm h ++ [13, 10] ++ wf r ∧ (∀ x ∈ r, good x) ∧ (r.map fun x => (x.1, x.2.1)) = (fs.take i).map Fb.f ∧ S.size ≤ 1015 + 309 * i
set_option maxRecDepth 100000 in
theorem and3_fin : ∀ c : Fin 256, (c.val &&& 3) = c.val % 4 := by decide
theorem and3 (n : Nat) (h : n < 256) : bits .and .u8 (n : Int) 3 = ((n % 4 : Nat) : Int) := by
  rw [← and3_fin ⟨n, h⟩]
  exact u8_and_nat n 3 h (by decide)
theorem WI.start {M T tv : ByteArray} {v : Int} {fs : List Fb} (htv : bn tv = [48 + v]) (hl : M.size + T.size ≤ 1000) : WI ⟨bn M, bn T, v, fs.map Fb.f⟩ fs (M ++ ⟨#[32]⟩ ++ T ++ ⟨#[32, 72, 84, 84, 80, 47, 49, 46]⟩ ++ tv ++ ⟨#[13, 10]⟩) 0 := by
  have hs : tv.size = 1 := by rw [← bn_length, htv]; rfl
  refine ⟨[], ?_, fun x h => (by cases h), rfl, ?_⟩
  · rw [bn_append, bn_append, bn_append, bn_append, bn_append, htv]
    unfold wm
    rw [show bn ⟨#[32]⟩ = [32] from rfl, show bn ⟨#[32, 72, 84, 84, 80, 47, 49, 46]⟩ = [32, 72, 84, 84, 80, 47, 49, 46] from rfl, show bn ⟨#[13, 10]⟩ = [13, 10] from rfl]
    simp [wf]
  · simp only [ByteArray.size_append, hs]
    show M.size + 1 + T.size + 8 + 1 + 2 ≤ _
    omega
theorem WI.next {h : H} {fs : List Fb} {S X Y b : ByteArray} {i : Nat} (hw : WI h fs S i) (hi : i < fs.length) (hx : fs[i]?.getD z2 = ⟨X, Y⟩) (hf : fld (bn (X ++ ⟨#[58]⟩ ++ Y)) = some (bn X, bn Y)) (hb : ∀ c ∈ bn b, bl c = true) (hbs : b.size ≤ 3) (hl : X.size + Y.size ≤ 300) :
    WI h fs (S ++ X ++ ⟨#[58]⟩ ++ b ++ Y ++ b ++ ⟨#[13, 10]⟩) (i + 1) := by
  obtain ⟨r, h1, h2, h3, h4⟩ := hw
  refine ⟨r ++ [(bn X, bn Y, bn b)], ?_, ?_, ?_, ?_⟩
  · rw [wf_snoc, bn_append, bn_append, bn_append, bn_append, bn_append, bn_append, h1]
    rw [show bn ⟨#[58]⟩ = [58] from rfl, show bn ⟨#[13, 10]⟩ = [13, 10] from rfl]
    simp
  · intro x hx
    rcases List.mem_append.1 hx with hx | hx
    · exact h2 x hx
    · rw [List.mem_singleton.1 hx]
      refine ⟨?_, hb, ?_, ?_⟩
      · rw [bn_append, bn_append] at hf
        have e : bn X ++ bn ⟨#[58]⟩ ++ bn Y = bn X ++ 58 :: bn Y := by rw [List.append_assoc]; rfl
        rw [e] at hf
        exact hf
      · simp only [bn_length]; omega
      · simp only [bn_length]; omega
  · rw [List.map_append, h3, List.take_succ_eq_append_getElem hi, List.map_append]
    rw [List.getElem?_eq_getElem hi] at hx
    simp only [Option.getD_some] at hx
    rw [hx]
    rfl
  · simp only [ByteArray.size_append]
    show S.size + X.size + 1 + b.size + Y.size + b.size + 2 ≤ _
    omega
theorem WI.done {M T : ByteArray} {v : Int} {fs : List Fb} {S : ByteArray} (hw : WI ⟨bn M, bn T, v, fs.map Fb.f⟩ fs S fs.length) (hM : tok (bn M) = true) (hT : 0 < T.size) (hV : (bn T).all vis = true) (h0 : 0 ≤ v) (h1 : v ≤ 1) (hn : fs.length ≤ 20) (hl : M.size + T.size ≤ 1000) (rest : ByteArray) :
    ∃ q, go s0 (bn (S ++ ⟨#[13, 10]⟩ ++ rest)) = q ∧ q.d = true ∧ q.e = 0 ∧ q.h = ⟨bn M, bn T, v, fs.map Fb.f⟩ ∧ q.n = (S ++ ⟨#[13, 10]⟩).size := by
  obtain ⟨r, g1, g2, g3, g4⟩ := hw
  rw [List.take_length] at g3
  have hr : r.length ≤ 20 := by
    have := congrArg List.length g3
    simp only [List.length_map] at this
    omega
  obtain ⟨q, e1, e2, e3, e4, e5⟩ := go_writes (h := ⟨bn M, bn T, v, fs.map Fb.f⟩) (r := r) hM (fun e => absurd ((bn_length T).symm.trans (congrArg List.length e)) (Nat.ne_of_gt hT)) hV h0 h1 g3.symm g2 hr (by simp only [bn_length]; exact hl) (bn rest)
  have eb : bn (S ++ ⟨#[13, 10]⟩) = wm ⟨bn M, bn T, v, fs.map Fb.f⟩ ++ [13, 10] ++ wf r ++ [13, 10] := by rw [bn_append, g1]; rfl
  refine ⟨q, ?_, e2, e3, e4, ?_⟩
  · rw [bn_append, eb]; exact e1
  · rw [e5, ← eb, bn_length]
set_option maxRecDepth 100000 in
set_option maxHeartbeats 8000000 in
theorem writes_walk {Rd : Nat → World → Value → List Int → Prop} (C : Ctr Rd) (M T : ByteArray) (v : Int) (F : Value) (fs : List Fb) (bv : Value) (bs : List Nat) (hbs : ∀ j : Nat, bs[j]?.getD 0 < 256) (rest : ByteArray) (w : World) (hF : FldAt w F fs) (hv0 : 0 ≤ v) (hv1 : v ≤ 255) (hM : M.size ≤ 140737488351232) (hT : T.size ≤ 140737488351232) (hfl : fs.length ≤ 140737488351232) (hfw : ∀ x ∈ fs, x.x.size ≤ 140737488351232 ∧ x.y.size ≤ 140737488351232) (hU : U8s w bv bs) (hbl : bs.length ≤ 140737488351232) : Calls Tryd.prog 5 #[.agg #[.string M, .string T, .int .u8 v, F], bv, .string rest] w fun e W' => e = .returned (.bool true) ∧ Below w.heap.size w W' := by
  have HC := hid C
  obtain ⟨ao, cap, rfl, _, _⟩ := id hF
  obtain ⟨bo, bcap, rfl, hbc⟩ := hU
  have HBC := hid hbc
  have HBS := hid hbs
  have HF := hid hF
  have HFW := hid hfw
  have HBX : Hid (Below w.heap.size w (w.alloc (.cells #[.string M, .string T, .int .u8 v, .slice ao fs.length cap] 27))) := (Below.refl _ w).alloc (Nat.le_refl _) _
  clear hF hbc hbs hfw
  have HTK : Hid (M.size ≤ 1000000 → ∀ W, Calls Tryd.prog 13 #[.string M] W fun e W' => e = .returned (.bool (tok (bn M))) ∧ W' = W) := fun h W => rtoken_any M h W
  obtain ⟨u, hu⟩ : ∃ u, (!decide (M.size + T.size ≤ 1000 ∧ fs.length ≤ 20 ∧ rest.size ≤ 1000 ∧ v ≤ 1 ∧ tok (bn M) = true ∧ 0 < T.size)) = u := ⟨_, rfl⟩
  have HU := hid hu
  clear hu
  go_enter Tryd.func5, Tryd.ntmps5
  go_upto_region 1 with fail
  go_cut [51] from 17 to 51 (fun v51 wc => v51 = .bool u ∧ wc = (w.alloc (.cells #[.string M, .string T, .int .u8 v, .slice ao fs.length cap] 27)))
  case first =>
    clear HF HC HBC HBS HBX HFW
    by_cases c0 : M.size + T.size ≤ 1000
    · have z0 : ¬ 1000 < (M.size : Int) + (T.size : Int) := by omega
      have e0 : decide (1000 < (M.size : Int) + (T.size : Int)) = false := decide_eq_false z0
      by_cases c1 : fs.length ≤ 20
      · have z1 : ¬ 20 < (fs.length : Int) := by omega
        have e1 : decide (20 < (fs.length : Int)) = false := decide_eq_false z1
        by_cases c2 : rest.size ≤ 1000
        · have z2 : ¬ 1000 < (rest.size : Int) := by omega
          have e2 : decide (1000 < (rest.size : Int)) = false := decide_eq_false z2
          by_cases c3 : v ≤ 1
          · have z3 : ¬ 1 < v := by omega
            have e3 : decide (1 < v) = false := decide_eq_false z3
            go_wp2_with fail
            refine (HTK.out (by omega) _).mono ?_
            rintro e w5 ⟨rfl, rfl⟩
            clear HTK
            by_cases c4 : tok (bn M) = true
            · rw [c4]
              by_cases c5 : 0 < T.size
              · have hne := isEmpty_false T c5
                have HX : Hid (u = false) := by show _ = _; rw [← HU.out, decide_eq_true ⟨c0, c1, c2, c3, c4, c5⟩]; rfl
                clear HU c4
                go_wp2
                go_meet
                case rel => exact ⟨by rw [HX.out] <;> rfl, by first | rfl | trivial⟩
              · have hne := isEmpty_true T (by omega)
                have HX : Hid (u = true) := by show _ = _; rw [← HU.out, decide_eq_false (fun h => c5 h.2.2.2.2.2)]; rfl
                clear HU c4
                go_wp2
                go_meet
                case rel => exact ⟨by rw [HX.out] <;> rfl, by first | rfl | trivial⟩
            · have cf : tok (bn M) = false := by simpa using c4
              rw [cf]
              have HX : Hid (u = true) := by show _ = _; rw [← HU.out, decide_eq_false (fun h => c4 h.2.2.2.2.1)]; rfl
              clear HU c4 cf
              go_wp2
              go_meet
              case rel => exact ⟨by rw [HX.out] <;> rfl, by first | rfl | trivial⟩
          · have z3 : 1 < v := by omega
            have HX : Hid (u = true) := by show _ = _; rw [← HU.out, decide_eq_false (fun h => c3 h.2.2.2.1)]; rfl
            clear HU HTK
            go_wp2
            go_meet
            case rel => exact ⟨by rw [HX.out] <;> rfl, by first | rfl | trivial⟩
        · have z2 : 1000 < (rest.size : Int) := by omega
          have HX : Hid (u = true) := by show _ = _; rw [← HU.out, decide_eq_false (fun h => c2 h.2.2.1)]; rfl
          clear HU HTK
          go_wp2
          go_meet
          case rel => exact ⟨by rw [HX.out] <;> rfl, by first | rfl | trivial⟩
      · have z1 : 20 < (fs.length : Int) := by omega
        have HX : Hid (u = true) := by show _ = _; rw [← HU.out, decide_eq_false (fun h => c1 h.2.1)]; rfl
        clear HU HTK
        go_wp2
        go_meet
        case rel => exact ⟨by rw [HX.out] <;> rfl, by first | rfl | trivial⟩
    · have z0 : 1000 < (M.size : Int) + (T.size : Int) := by omega
      have HX : Hid (u = true) := by show _ = _; rw [← HU.out, decide_eq_false (fun h => c0 h.1)]; rfl
      clear HU HTK
      go_wp2
      go_meet
      case rel => exact ⟨by rw [HX.out] <;> rfl, by first | rfl | trivial⟩
  case rest =>
    obtain ⟨rfl, rfl⟩ := hcut
    cases u with
    | true =>
      clear HU HF HTK HBC HBS HFW
      go_wp2_with fail
      refine (alive_any HC.out _).mono ?_
      rintro e w2 ⟨rfl, hB⟩
      have HB2 := hid (HBX.out.trans (hB.mono HBX.out.size))
      clear hB
      go_wp2
      go_ret
      exact ⟨rfl, HB2.out⟩
    | false =>
      obtain ⟨c0, c1, c2, c3, c4, c5⟩ : M.size + T.size ≤ 1000 ∧ fs.length ≤ 20 ∧ rest.size ≤ 1000 ∧ v ≤ 1 ∧ tok (bn M) = true ∧ 0 < T.size := by
        have := HU.out
        simpa using this
      have HTM := hid c4
      clear HU HTK c4
      have hr0 := heap_alloc_last w (.cells #[.string M, .string T, .int .u8 v, .slice ao fs.length cap] 27)
      have HF1 := hid (HF.out.below ((Below.refl _ w).alloc (Nat.le_refl _) (.cells #[.string M, .string T, .int .u8 v, .slice ao fs.length cap] 27)))
      obtain ⟨w1, hw1⟩ : ∃ w1, (w.alloc (.cells #[.string M, .string T, .int .u8 v, .slice ao fs.length cap] 27)) = w1 := ⟨_, rfl⟩
      rw [hw1] at hr0 HF1 HBX ⊢
      clear hw1
      have HR1 := hid hr0
      have k0 := cell_of_row _ _ 0 _ _ _ hr0
      have k1 := cell_of_row _ _ 1 _ _ _ hr0
      have k2 := cell_of_row _ _ 2 _ _ _ hr0
      have k3 := cell_of_row _ _ 3 _ _ _ hr0
      simp only [List.getElem?_toArray, List.getElem?_cons_succ, List.getElem?_cons_zero] at k0 k1 k2 k3
      clear hr0
      have HGT := hid (bn_get T)
      go_wp2_with fail
      go_loopw [7] (fun v7 wr => ∃ i : Nat, i ≤ T.size ∧ v7 = .int .i64 (i : Int) ∧ Hid (∀ j, j < i → vis ((bn T)[j]?.getD 0) = true) ∧ wr = w1) (fun v7 _ => T.size - (intOf v7).toNat)
      case atStart => exact ⟨0, Nat.zero_le _, rfl, fun j h => absurd h (Nat.not_lt_zero _), rfl⟩
      case round =>
        obtain ⟨i, hi, rfl, HRR, rfl⟩ := hrel
        by_cases hlt : i < T.size
        · have hltz : (i : Int) < (T.size : Int) := by omega
          have hg := (HGT.out i hlt).symm
          obtain ⟨y, hy⟩ : ∃ y, (bn T)[i]?.getD 0 = y := ⟨_, rfl⟩
          have HY := hid hy
          rw [hy] at hg
          clear hy HF HF1 HBC HBS HFW HTM
          by_cases h33 : y < 33
          · go_wp2_with fail
            refine (alive_any HC.out _).mono ?_
            rintro e w2 ⟨rfl, hB⟩
            have HB2 := hid (HBX.out.trans (hB.mono HBX.out.size))
            clear hB
            go_wp2
            go_ret
            exact ⟨rfl, HB2.out⟩
          · have d33 : decide (y < 33) = false := decide_eq_false h33
            by_cases h126 : 126 < y
            · go_wp2_with fail
              refine (alive_any HC.out _).mono ?_
              rintro e w2 ⟨rfl, hB⟩
              have HB2 := hid (HBX.out.trans (hB.mono HBX.out.size))
              clear hB
              go_wp2
              go_ret
              exact ⟨rfl, HB2.out⟩
            · have HV : Hid (vis y = true) := by show _ = _; unfold vis; exact decide_eq_true (by omega)
              go_wp2
              go_roundw
              case rel => exact ⟨i + 1, by omega, by go_num, fun j hj => by
                by_cases h : j < i
                · exact HRR.out j h
                · obtain rfl : j = i := by omega
                  rw [HY.out]; exact HV.out, by first | rfl | trivial⟩
              case measure => simp [intOf]; omega
        · have hltz : ¬ (i : Int) < (T.size : Int) := by omega
          obtain rfl : i = T.size := by omega
          obtain ⟨tv, htv, htb⟩ := conv_text (W := wr.alloc (.cells #[.int .u8 (48 + v)] 5)) (g := wr.heap.size) (c := 1) (n := 1) (l := [48 + v]) rfl (by simp; omega) (fun j hj => by
            obtain rfl : j = 0 := by simpa using hj
            rw [cell_of_row _ _ _ _ _ _ (heap_alloc_last wr (.cells #[.int .u8 (48 + v)] 5))]; rfl)
          have HTB := hid htb
          have htvs : tv.size = 1 := by rw [← bn_length, htb]; rfl
          have HVT : Hid ((bn T).all vis = true) := by
            show _ = _
            rw [List.all_eq_true]
            intro x hx
            obtain ⟨j, hj, rfl⟩ := List.mem_iff_getElem.1 hx
            have := HRR.out j (by rw [bn_length] at hj; exact hj)
            rw [List.getElem?_eq_getElem hj] at this
            exact this
          have HRn := hid (kept HR1.out ((Below.refl _ wr).alloc (Nat.le_refl _) (.cells #[.int .u8 (48 + v)] 5)))
          have HFn := hid (HF1.out.below ((Below.refl _ wr).alloc (Nat.le_refl _) (.cells #[.int .u8 (48 + v)] 5)))
          have HBn := hid (HBX.out.alloc HBX.out.size (.cells #[.int .u8 (48 + v)] 5))
          have hwn : w.heap.size ≤ (wr.alloc (.cells #[.int .u8 (48 + v)] 5)).heap.size := Nat.le_trans HBX.out.size (by simp)
          have HWS := hid (WI.start (fs := fs) htb c0)
          clear htb HRR HGT HR1 HF1 HBX HF
          obtain ⟨h9, hh9⟩ : ∃ h9 : H, (⟨bn M, bn T, v, fs.map Fb.f⟩ : H) = h9 := ⟨_, rfl⟩
          have HH9 := hid hh9
          rw [hh9] at HWS
          clear hh9
          go_wp2_with fail
          clear k0 k1 k2 k3 htv
          go_loopw [8, 9] (fun v8 v9 wr => ∃ (i : Nat) (S : ByteArray), i ≤ fs.length ∧ v8 = .string S ∧ v9 = .int .i64 (i : Int) ∧ WI h9 fs S i ∧ wr.heap[w.heap.size]? = some (.cells #[.string M, .string T, .int .u8 v, .slice ao fs.length cap] 27 (0, 0)) ∧ FldAt wr (.slice ao fs.length cap) fs ∧ Below w.heap.size w wr) (fun _ v9 _ => fs.length - (intOf v9).toNat)
          case atStart => exact ⟨0, _, Nat.zero_le _, rfl, rfl, HWS.out, HRn.out, HFn.out, HBn.out⟩
          case round =>
            clear HWS HRn HFn HBn hwn
            obtain ⟨i, S, hi, rfl, rfl, hws, hr, hf, hb⟩ := hrel
            have HWS := hid hws
            have HR := hid hr
            have HF := hid hf
            have HB := hid hb
            have hSs : S.size ≤ 100000 := by obtain ⟨_, _, _, _, h⟩ := hws; omega
            have hwr := hb.size
            clear hws hf hb
            have k3 := cell_of_row _ _ 3 _ _ _ hr
            simp only [List.getElem?_toArray, List.getElem?_cons_succ, List.getElem?_cons_zero] at k3
            clear hr
            by_cases hlt : i < fs.length
            · have hltz : (i : Int) < (fs.length : Int) := by omega
              obtain ⟨b, off, rfl⟩ : ∃ b off, ao = some ⟨b, off, none⟩ := by
                obtain ⟨a, c, e, _, h1⟩ := HF.out
                obtain ⟨b, off, ea, _⟩ := h1 (by omega)
                injection e with e1
                exact ⟨b, off, e1.trans ea⟩
              obtain ⟨f0, f1⟩ := HF.out.cell hlt
              have hwt := HFW.out (fs[i]?.getD z2) (by rw [List.getElem?_eq_getElem hlt]; exact List.getElem_mem hlt)
              obtain ⟨⟨X, Y⟩, hx⟩ : ∃ x, fs[i]?.getD z2 = x := ⟨_, rfl⟩
              have HX := hid hx
              rw [hx] at f0 f1 hwt
              simp only at f0 f1 hwt
              obtain ⟨hwt1, hwt2⟩ := hwt
              clear hx
              have BA : Below wr.heap.size wr (wr.alloc (.cells #[.string X, .string Y] 40)) := (Below.refl _ wr).alloc (Nat.le_refl _) _
              have HRA := hid (heap_alloc_last wr (.cells #[.string X, .string Y] 40))
              have HR2 := hid (kept HR.out BA)
              have HF2 := hid (HF.out.below BA)
              have HB8 := hid (HB.out.trans (BA.mono hwr))
              clear BA HR HF HB
              by_cases h300 : X.size + Y.size ≤ 300
              rotate_left
              · have h300z : 300 < (X.size : Int) + (Y.size : Int) := by omega
                clear HR2 HF2 HRA HBC HBS HWS HFW HTM
                go_wp2_with fail
                refine (alive_any HC.out _).mono ?_
                rintro e w9 ⟨rfl, hB⟩
                have HB9 := hid (HB8.out.trans (hB.mono HB8.out.size))
                clear hB
                go_wp2
                go_ret
                exact ⟨rfl, HB9.out⟩
              have h300z : ¬ 300 < (X.size : Int) + (Y.size : Int) := by omega
              have hsz : (X ++ ⟨#[58]⟩ ++ Y).size ≤ 1000000 := by
                rw [ByteArray.size_append, ByteArray.size_append, show (⟨#[58]⟩ : ByteArray).size = 1 from rfl]
                omega
              have HFD := hid (fun W => rfield_any _ hsz W)
              clear hsz
              go_wp2_with fail
              refine (HFD.out _).mono ?_
              rintro e w6 ⟨⟨N, V, ok, hno, hyes, rfl⟩, hB⟩
              have HRA6 := hid (kept HRA.out hB)
              have HR6 := hid (kept HR2.out hB)
              have HF6 := hid (HF2.out.below hB)
              have HB6 := hid (HB8.out.trans (hB.mono HB8.out.size))
              have hlw : wr.heap.size < w6.heap.size := Nat.lt_of_lt_of_le (by simp) hB.size
              clear hB HRA HR2 HF2 HB8 hno HFD
              have BA : Below w6.heap.size w6 (w6.alloc (.cells #[.string N, .string V] 40)) := (Below.refl _ w6).alloc (Nat.le_refl _) _
              have hra := kept HRA6.out BA
              have HR8 := hid (kept HR6.out BA)
              have HF8 := hid (HF6.out.below BA)
              have HB8 := hid (HB6.out.trans (BA.mono HB6.out.size))
              clear BA HRA6 HR6 HF6 HB6
              cases ok with
              | false =>
                clear hyes hra HR8 HF8 HBC HBS HWS HFW HTM
                go_wp2_with fail
                refine (alive_any HC.out _).mono ?_
                rintro e w9 ⟨rfl, hB⟩
                have HB9 := hid (HB8.out.trans (hB.mono HB8.out.size))
                clear hB
                go_wp2
                go_ret
                exact ⟨rfl, HB9.out⟩
              | true =>
                have hyy := hyes rfl
                clear hyes
                have HNE := neq_fld ⟨N, V⟩ ⟨X, Y⟩
                have HEQ := hid (eqf_iff (a := ⟨N, V⟩) (b := ⟨X, Y⟩))
                obtain ⟨r, hr⟩ : ∃ r, eqf ⟨N, V⟩ ⟨X, Y⟩ = r := ⟨_, rfl⟩
                rw [hr] at HNE HEQ
                have HYY := hid hyy
                have a0 := cell_of_row _ _ 0 _ _ _ hra
                have a1 := cell_of_row _ _ 1 _ _ _ hra
                simp only [List.getElem?_toArray, List.getElem?_cons_succ, List.getElem?_cons_zero] at a0 a1
                clear hra hr hyy
                cases r with
                | false =>
                  clear HR8 HF8 HBC HBS HWS HFW HTM HYY HEQ
                  go_wp2_with fail
                  refine (alive_any HC.out _).mono ?_
                  rintro e w9 ⟨rfl, hB⟩
                  have HB9 := hid (HB8.out.trans (hB.mono HB8.out.size))
                  clear hB
                  go_wp2
                  go_ret
                  exact ⟨rfl, HB9.out⟩
                | true =>
                  have HFE : Hid (fld (bn (X ++ ⟨#[58]⟩ ++ Y)) = some (bn X, bn Y)) := by
                    have e : Fb.f ⟨N, V⟩ = Fb.f ⟨X, Y⟩ := HEQ.out.1 (by first | rfl | trivial)
                    have h := HYY.out
                    rw [show ((bn N, bn V) : List Int × List Int) = Fb.f ⟨N, V⟩ from rfl, e] at h
                    exact h
                  clear HEQ HYY
                  have HA0 := hid a0
                  have HA1 := hid a1
                  have HNE' := hid HNE
                  go_upto_if 128 with fail
                  clear HNE a0 a1
                  obtain ⟨w8, hw8⟩ : ∃ w8, w6.alloc (.cells #[.string N, .string V] 40) = w8 := ⟨_, rfl⟩
                  rw [hw8] at HR8 HF8 HB8 HA0 HA1 ⊢
                  clear hw8
                  go_cut [13] from 126 to 138 (fun v13 wc => (∃ bb : ByteArray, v13 = .string bb ∧ (∀ c ∈ bn bb, bl c = true) ∧ bb.size ≤ 3) ∧ wc = w8)
                  case first =>
                    clear HR8 HF8 HWS HFW HTM HA0 HA1 HNE' HFE
                    by_cases h0 : 0 < bs.length
                    · have h0z : 0 < (bs.length : Int) := by omega
                      obtain ⟨b', off', rfl, hc⟩ := HBC.out h0
                      obtain ⟨m, hm⟩ : ∃ m, i % bs.length = m := ⟨_, rfl⟩
                      have hml : m < bs.length := by rw [← hm]; exact Nat.mod_lt _ h0
                      have hmz : (i : Int) % (bs.length : Int) = (m : Int) := by rw [← hm]; omega
                      have hcell := cell_kept (hc m hml) HB8.out
                      have hx := HBS.out m
                      obtain ⟨x, hxe⟩ : ∃ x, bs[m]?.getD 0 = x := ⟨_, rfl⟩
                      rw [hxe] at hcell hx
                      have hmlz : (m : Int) < (bs.length : Int) := by omega
                      have hx4 := and3 x hx
                      have h4s : x % 4 = 0 ∨ x % 4 = 1 ∨ x % 4 = 2 ∨ x % 4 = 3 := by omega
                      clear hc hm hxe HBC HBS HB8 HC
                      rcases h4s with h4 | h4 | h4 | h4
                      · have hand : bits .and .u8 (x : Int) 3 = 0 := hx4.trans (by rw [h4]; rfl)
                        have hidx : ∀ W, (Instr.index 43 (.agg #[.string ⟨#[]⟩, .string ⟨#[32]⟩, .string ⟨#[9]⟩, .string ⟨#[32, 9, 32]⟩]) (.int .u8 0)).run Tryd.prog W = .ok (.string ⟨#[]⟩) W := fun W => by kernel_rfl
                        clear hx4 h4
                        go_wp2
                        go_meet
                        case rel => exact ⟨⟨⟨#[]⟩, rfl, by (intro c hc; have e : bn ⟨#[]⟩ = [] := rfl; rw [e] at hc; revert c; decide), by decide⟩, by first | rfl | trivial⟩
                      · have hand : bits .and .u8 (x : Int) 3 = 1 := hx4.trans (by rw [h4]; rfl)
                        have hidx : ∀ W, (Instr.index 43 (.agg #[.string ⟨#[]⟩, .string ⟨#[32]⟩, .string ⟨#[9]⟩, .string ⟨#[32, 9, 32]⟩]) (.int .u8 1)).run Tryd.prog W = .ok (.string ⟨#[32]⟩) W := fun W => by kernel_rfl
                        clear hx4 h4
                        go_wp2
                        go_meet
                        case rel => exact ⟨⟨⟨#[32]⟩, rfl, by (intro c hc; have e : bn ⟨#[32]⟩ = [32] := rfl; rw [e] at hc; revert c; decide), by decide⟩, by first | rfl | trivial⟩
                      · have hand : bits .and .u8 (x : Int) 3 = 2 := hx4.trans (by rw [h4]; rfl)
                        have hidx : ∀ W, (Instr.index 43 (.agg #[.string ⟨#[]⟩, .string ⟨#[32]⟩, .string ⟨#[9]⟩, .string ⟨#[32, 9, 32]⟩]) (.int .u8 2)).run Tryd.prog W = .ok (.string ⟨#[9]⟩) W := fun W => by kernel_rfl
                        clear hx4 h4
                        go_wp2
                        go_meet
                        case rel => exact ⟨⟨⟨#[9]⟩, rfl, by (intro c hc; have e : bn ⟨#[9]⟩ = [9] := rfl; rw [e] at hc; revert c; decide), by decide⟩, by first | rfl | trivial⟩
                      · have hand : bits .and .u8 (x : Int) 3 = 3 := hx4.trans (by rw [h4]; rfl)
                        have hidx : ∀ W, (Instr.index 43 (.agg #[.string ⟨#[]⟩, .string ⟨#[32]⟩, .string ⟨#[9]⟩, .string ⟨#[32, 9, 32]⟩]) (.int .u8 3)).run Tryd.prog W = .ok (.string ⟨#[32, 9, 32]⟩) W := fun W => by kernel_rfl
                        clear hx4 h4
                        go_wp2
                        go_meet
                        case rel => exact ⟨⟨⟨#[32, 9, 32]⟩, rfl, by (intro c hc; have e : bn ⟨#[32, 9, 32]⟩ = [32, 9, 32] := rfl; rw [e] at hc; revert c; decide), by decide⟩, by first | rfl | trivial⟩
                    · have h0z : ¬ 0 < (bs.length : Int) := by omega
                      clear HBC HBS HB8 HC
                      go_wp2
                      go_meet
                      case rel => exact ⟨⟨⟨#[]⟩, rfl, by (intro c hc; have e : bn ⟨#[]⟩ = [] := rfl; rw [e] at hc; cases hc), by decide⟩, by first | rfl | trivial⟩
                  case rest =>
                    obtain ⟨⟨bb, rfl, hbb, hbbs⟩, rfl⟩ := hcut
                    have HNX := hid (WI.next HWS.out hlt HX.out HFE.out hbb hbbs h300)
                    have a0 := HA0.out
                    have a1 := HA1.out
                    clear HFE HA0 HA1 hbb HNE' HWS
                    go_wp2
                    go_roundw
                    case rel => exact ⟨i + 1, _, by omega, rfl, by go_num, HNX.out, HR8.out, HF8.out, HB8.out⟩
                    case measure => simp [intOf]; omega
            · have hltz : ¬ (i : Int) < (fs.length : Int) := by omega
              obtain rfl : i = fs.length := by omega
              have hws := HWS.out
              rw [← HH9.out] at hws
              obtain ⟨q, hq, hqd, hqe, hqh, hqn⟩ := hws.done HTM.out c5 HVT.out hv0 c3 c1 c0 rest
              have hsz : (S ++ ⟨#[13, 10]⟩ ++ rest).size ≤ 1000000 := by
                rw [ByteArray.size_append, ByteArray.size_append, show (⟨#[13, 10]⟩ : ByteArray).size = 2 from rfl]
                omega
              have HPA := hid (fun W => HC.out.parse _ W hsz)
              clear hws hsz HWS HH9 HVT HTM HBC HBS HFW
              go_wp2_with fail
              refine (HPA.out _).mono ?_
              rintro e w2 ⟨⟨hv, he, hh⟩, hB⟩
              rw [hq, hqe, hqd, hqn, if_neg (by simp), if_neg (by simp)] at he
              rw [hq, hqd, if_pos rfl, hqh] at hh
              subst he
              obtain ⟨Ma, Ta, va, Fa, fa, rfl, ⟨aA, cA, rfl, _, _⟩, _, _, _, _⟩ := id hh
              have HA2 := hid hh
              have HR2 := hid (kept HR.out hB)
              have HB2 := hid (HB.out.trans (hB.mono hwr))
              have HH2 : Hid (HdIs w2 (.agg #[.string M, .string T, .int .u8 v, .slice ao fs.length cap]) ⟨bn M, bn T, v, fs.map Fb.f⟩) := ⟨M, T, v, _, fs, rfl, HF.out.below hB, by omega, hv0, hv1, rfl⟩
              clear hB hh HR HB HPA k3 HF
              have BA : Below w2.heap.size w2 (w2.alloc (.cells #[.string Ma, .string Ta, .int .u8 va, .slice aA fa.length cA] 27)) := (Below.refl _ w2).alloc (Nat.le_refl _) _
              have hra := heap_alloc_last w2 (.cells #[.string Ma, .string Ta, .int .u8 va, .slice aA fa.length cA] 27)
              have HA3 := hid (HA2.out.below BA)
              have HH3 := hid (HH2.out.below BA)
              have hr3 := kept HR2.out BA
              have HB3 := hid (HB2.out.trans (BA.mono HB2.out.size))
              clear BA HA2 HH2 HR2 HB2
              have a0 := cell_of_row _ _ 0 _ _ _ hra
              have a1 := cell_of_row _ _ 1 _ _ _ hra
              have a2 := cell_of_row _ _ 2 _ _ _ hra
              have a3 := cell_of_row _ _ 3 _ _ _ hra
              have b0 := cell_of_row _ _ 0 _ _ _ hr3
              have b1 := cell_of_row _ _ 1 _ _ _ hr3
              have b2 := cell_of_row _ _ 2 _ _ _ hr3
              have b3 := cell_of_row _ _ 3 _ _ _ hr3
              simp only [List.getElem?_toArray, List.getElem?_cons_succ, List.getElem?_cons_zero] at a0 a1 a2 a3 b0 b1 b2 b3
              clear hra hr3
              go_wp2_with fail
              refine (rsame_any _ _ _ _ _ HA3.out HH3.out).mono ?_
              rintro e w4 ⟨⟨r, rfl, hr⟩, hB⟩
              obtain rfl := hr.2 rfl
              have HB4 := hid (HB3.out.trans (hB.mono HB3.out.size))
              clear hB hr HA3 HH3 HB3 a0 a1 a2 a3 b0 b1 b2 b3
              go_wp2_with fail
              refine (alive_any HC.out _).mono ?_
              rintro e w5 ⟨rfl, hB⟩
              have HB5 := hid (HB4.out.trans (hB.mono HB4.out.size))
              clear hB
              go_wp2
              go_ret
              exact ⟨rfl, HB5.out⟩
end Go.Proofs.YtacbfbhhhofifaaDoor.Hd
