/- lex.Quote. (Stage 15.) -/
import Derived.Test.YtphkdagapoonjaaDoorLPO
import Derived.Test.YtphkdagapoonjaaDoorLPI
import Derived.Test.YtphkdagapoonjaaDoorLPH
namespace Go.Proofs.YtphkdagapoonjaaDoor.Lx
open Go.RowKit
open Go.Proofs.YtphkdagapoonjaaDoor.F (bn bn_length bn_append bn_inj bn_get byte_bd hid bn_extract isEmpty_false isEmpty_true str_eq same_eq)
open Go.Proofs.YtphkdagapoonjaaDoor.U (nx enc encs scal val Bytes)
set_option linter.unusedVariables false

/-- A rune of a valid text. -/
theorem vr_step (s : ByteArray) (p : Nat) (hp : p < s.size) (hv : val ((bn s).drop p) = true) :
    scal ((Utf8.decode s p).1 : Int) = true ∧ enc ((Utf8.decode s p).1 : Int) = ((bn s).drop p).take (Utf8.decode s p).2 ∧ 1 ≤ (Utf8.decode s p).2 ∧ p + (Utf8.decode s p).2 ≤ s.size ∧ val ((bn s).drop (p + (Utf8.decode s p).2)) = true := by
  have hd := dec_nx s p hp
  have hl : ((bn s).drop p).length = s.size - p := by rw [List.length_drop, bn_length]
  have hne : (bn s).drop p ≠ [] := by intro e; rw [e] at hl; simp at hl; omega
  have hB : Bytes ((bn s).drop p) := fun b hb => U.bn_bytes s b (List.mem_of_mem_drop hb)
  have hn := U.nx_n _ hne
  rw [hl] at hn
  rw [U.val_cons _ hne hB, Bool.and_eq_true] at hv
  have hw := hv.1
  rw [if_pos hw] at hd
  rw [if_pos hw] at hd
  have hsp := (rn_step s p hp)
  have he : scal ((Utf8.decode s p).1 : Int) = true := by
    rcases hsp with ⟨h1, _⟩ | ⟨_, h1, _⟩
    · rw [scal_iff]; omega
    · exact h1
  refine ⟨he, ?_, by rw [hd.2]; exact hn.1, by rw [hd.2]; exact le_aux hn.2 hp, by rw [hd.2, ← List.drop_drop]; exact hv.2⟩
  rw [hd.1, hd.2]
  exact (U.nx_whole _ hne hB hw).2.1
theorem Bl.iter {B b : Nat} {l : List Int} {w : World} (h : Bl B b l w) {k : Nat} {s : ByteArray} {pos : Nat} (hk : w.heap[k]? = some (.stringIter s pos)) (pos' : Nat) : Bl B b l (w.iterAt k s pos') := ⟨Lib.IsBuilderF.iterAt h.1 hk pos', h.2⟩
theorem ok_iter {b k : Nat} {w w' : World} {s : ByteArray} {pos : Nat} (h : OK b w w') (hk : w.heap[k]? = some (.stringIter s pos)) (hne : k ≠ b) : w'.heap[k]? = some (.stringIter s pos) := h k _ hk (fun e => hne (Option.some.inj e)) (fun c fz e => by cases e)
/-- How a rune stands in quotes. -/
theorem qb_rune (s : ByteArray) (p : Nat) (hp : p < s.size) (hv : val ((bn s).drop p) = true) :
    (((bn s).drop p).take (Utf8.decode s p).2).flatMap qb =
      if ((Utf8.decode s p).1 : Int) = 34 ∨ ((Utf8.decode s p).1 : Int) = 92 then 92 :: enc ((Utf8.decode s p).1 : Int)
      else if ((Utf8.decode s p).1 : Int) < 32 ∨ ((Utf8.decode s p).1 : Int) = 127 then [92, 117, 123] ++ hx2 (Utf8.decode s p).1 ++ [125]
      else enc ((Utf8.decode s p).1 : Int) := by
  obtain ⟨h1, h2, h3, h4, h5⟩ := vr_step s p hp hv
  have hsp := rn_step s p hp
  rw [← h2]
  obtain ⟨R, hR⟩ : ∃ R, (Utf8.decode s p).1 = R := ⟨_, rfl⟩
  rw [hR] at h1 hsp ⊢
  by_cases h128 : R < 128
  · have e : enc (R : Int) = [(R : Int)] := by unfold enc; rw [if_pos (by omega)]
    rw [e]
    simp only [List.flatMap_cons, List.flatMap_nil, List.append_nil]
    unfold qb
    by_cases a1 : (R : Int) = 34 ∨ (R : Int) = 92
    · rw [if_pos a1, if_pos a1]
    rw [if_neg a1, if_neg a1]
    unfold hx2
    by_cases a2 : (R : Int) < 16
    · rw [if_pos a2, if_pos (by omega), if_pos (by omega)]; rfl
    rw [if_neg a2]
    by_cases a3 : (R : Int) < 32 ∨ (R : Int) = 127
    · rw [if_pos a3, if_pos a3, if_neg (by omega)]
      have e1 : ((R / 16 : Nat) : Int) = (R : Int) / 16 := by omega
      have e2 : ((R % 16 : Nat) : Int) = (R : Int) % 16 := by omega
      rw [e1, e2]; rfl
    · rw [if_neg a3, if_neg a3]
  · rw [flat_high (enc_high (by omega)), if_neg (by omega), if_neg (by omega)]
def PqR (l : List Int) (e : Ending) : Prop := ∃ t : ByteArray, bn t = (quote l).1 ∧ e = .returned (.tuple #[.string t, .int .i64 (quote l).2])
theorem PqR.utf {l : List Int} (h : val l = false) : PqR l (.returned (.tuple #[.string ⟨#[]⟩, .int .i64 152])) := ⟨⟨#[]⟩, by unfold quote; rw [if_pos h]; rfl, by unfold quote; rw [if_pos h]; rfl⟩
theorem PqR.long {l : List Int} (h : val l = true) (h2 : 65536 < l.length) : PqR l (.returned (.tuple #[.string ⟨#[]⟩, .int .i64 4])) := ⟨⟨#[]⟩, by unfold quote; rw [if_neg (by simp [h]), if_pos h2]; rfl, by unfold quote; rw [if_neg (by simp [h]), if_pos h2]; rfl⟩
theorem PqR.ok {l : List Int} (h : val l = true) (h2 : ¬ 65536 < l.length) {t : ByteArray} (ht : bn t = qt l) : PqR l (.returned (.tuple #[.string t, .int .i64 0])) := ⟨t, by unfold quote; rw [if_neg (by simp [h]), if_neg h2]; exact ht, by unfold quote; rw [if_neg (by simp [h]), if_neg h2]; rfl⟩
set_option maxRecDepth 100000 in
set_option maxHeartbeats 8000000 in
theorem quote_any (s : ByteArray) (hs : s.size ≤ 1000000) (w : World) (G : Gl w) : Calls Tryd.prog 23 #[.string s] w fun e W' => PqR (bn s) e ∧ Below w.heap.size w W' := by
  have HV := hid (valid_any s (by omega) w G)
  have hbl := bn_length s
  cases hv : val (bn s) with
  | false =>
    have HF := hid (PqR.utf hv)
    rw [hv] at HV
    clear G hbl hv
    go_enter Tryd.func23, Tryd.ntmps23
    go_wp2_with fail
    refine HV.out.mono ?_
    rintro e w2 ⟨rfl, B⟩
    go_wp2
    go_ret2
    exact ⟨HF.out, B⟩
  | true =>
    rw [hv] at HV
    by_cases hl : 65536 < s.size
    · have HF := hid (PqR.long hv (by rw [hbl]; exact hl))
      clear G hbl hv
      go_enter Tryd.func23, Tryd.ntmps23
      go_wp2_with fail
      refine HV.out.mono ?_
      rintro e w2 ⟨rfl, B⟩
      go_wp2
      go_ret2
      exact ⟨HF.out, B⟩
    · have HF := hid (fun t ht => PqR.ok (t := t) hv (by rw [hbl]; exact hl) ht)
      have HVV := hid hv
      have HG := hid (fun W (h : Below w.heap.size w W) => G.below h)
      clear G hbl hv
      go_enter Tryd.func23, Tryd.ntmps23
      go_wp2_with fail
      refine HV.out.mono ?_
      rintro e w2 ⟨rfl, B⟩
      have HB2 := hid B
      have HN := hid (Bl.new w2)
      have HB3 := hid (B.alloc B.size (.cells #[.pointer none, .slice none 0 0] 40))
      have HW0 := hid (bl_byte w2.heap.size w2.heap.size [] 34 (by omega) (by omega) _ HN.out (by simp) (by simp))
      clear B HV
      go_wp2_with fail
      refine HW0.out.mono ?_
      rintro e w3 ⟨rfl, h1, h2, h3⟩
      have HBl0 := hid h1
      have HB4 : Hid (Below w.heap.size w w3) := hid (HB3.out.trans (h2.mono HB2.out.size))
      have hsz3 : w2.heap.size < w3.heap.size := by have := h2.size; simp at this; omega
      clear h1 h2 h3 HW0 HN HB3
      go_wp2_with fail
      go_loopg [] s.size (fun gf wx => ∃ p : Nat, wx.heap[w3.heap.size]? = some (.stringIter s p) ∧ Hid (Below w.heap.size w wx) ∧ Hid (Bl w2.heap.size w2.heap.size (34 :: ((bn s).take p).flatMap qb) wx) ∧ Hid (val ((bn s).drop p) = true) ∧ p ≤ s.size ∧ s.size ≤ p + gf)
      case atStart => exact ⟨0, World.iter_heap w3 s 0, HB4.out.alloc HB4.out.size _, HBl0.out.alloc _, HVV.out, by omega, by omega⟩
      case round =>
        obtain ⟨p, hit, HB, HBL, HVP, hp, hfu⟩ := hrel
        have zw := HB.out.size
        by_cases hps : p < s.size
        · obtain ⟨g', rfl⟩ : ∃ g', gk = g' + 1 := ⟨gk - 1, by omega⟩
          have hnx : ∀ ty, (Instr.next (.pointer (some ⟨w3.heap.size, 0, none⟩)) true ty).run Tryd.prog wr = _ := fun ty => Lib.run_next_any_at wr w3.heap.size s p ty hit hps
          have hst := vr_step s p hps HVP.out
          have hqr := qb_rune s p hps HVP.out
          have htk : ((bn s).take (p + (Utf8.decode s p).2)).flatMap qb = ((bn s).take p).flatMap qb ++ (((bn s).drop p).take (Utf8.decode s p).2).flatMap qb := by rw [List.take_add, List.flatMap_append]
          have hTl : (34 :: ((bn s).take p).flatMap qb).length ≤ 1000000 := by
            have h1 := flat_len ((bn s).take p)
            rw [List.length_take, bn_length] at h1
            rw [List.length_cons]
            omega
          rw [hqr] at htk
          clear hqr
          obtain ⟨R, hR⟩ : ∃ R, (Utf8.decode s p).1 = R := ⟨_, rfl⟩
          obtain ⟨K, hK⟩ : ∃ K, (Utf8.decode s p).2 = K := ⟨_, rfl⟩
          rw [hR, hK] at hnx hst htk
          clear hR hK
          obtain ⟨hsc, -, hK1, hpK, hvn⟩ := hst
          obtain ⟨T, hT⟩ : ∃ T, 34 :: ((bn s).take p).flatMap qb = T := ⟨_, rfl⟩
          rw [hT] at HBL hTl
          have HTK : Hid (34 :: ((bn s).take (p + K)).flatMap qb = T ++ (if (R : Int) = 34 ∨ (R : Int) = 92 then 92 :: enc (R : Int) else if (R : Int) < 32 ∨ (R : Int) = 127 then [92, 117, 123] ++ hx2 R ++ [125] else enc (R : Int))) := by
            show _ = _
            rw [htk, ← hT]; rfl
          have HSC := hid hsc
          have HVN := hid hvn
          have hit2 := Lib.iterAt_heap wr w3.heap.size s p (p + K) hit
          have HB2' := hid (Lib.below_iterAt HB.out (k := w3.heap.size) HB4.out.size s (p + K))
          have HBL2 := hid (HBL.out.iter hit (p + K))
          obtain ⟨W, hWd⟩ : ∃ W, wr.iterAt w3.heap.size s (p + K) = W := ⟨_, rfl⟩
          rw [hWd] at hnx hit2 HB2' HBL2
          have hWs : w2.heap.size ≤ W.heap.size := by have := (Array.getElem?_eq_some_iff.1 hit2).1; omega
          have hr0 := (scal_iff.1 hsc)
          have hw2 := HB2.out.size
          clear HB HBL hWd hit htk hT hsc hvn
          have hR0 : (R : Int) ≤ 1114111 := hr0.2.1
          by_cases hqq : (R : Int) = 34 ∨ (R : Int) = 92
          · rw [if_pos hqq] at HTK
            have HWB := hid (bl_byte w2.heap.size w2.heap.size T 92 (by omega) (by omega) W HBL2.out (by omega) hWs)
            have hqb : ((R : Int) == 34) = true ∨ ((R : Int) == 34) = false ∧ ((R : Int) == 92) = true := by
              rcases hqq with h | h
              · exact .inl (by simpa using h)
              · exact .inr ⟨by simp; omega, by simpa using h⟩
            clear hqq hr0
            rcases hqb with qa | ⟨qa, qb'⟩
            all_goals
              go_wp2_with fail
              refine HWB.out.mono ?_
              rintro e w5 ⟨rfl, h1, h2, h3⟩
              have hit5 := ok_iter h3 hit2 (by omega)
              have HB5 := hid (HB2'.out.trans (h2.mono hw2))
              have hW5 : w2.heap.size ≤ w5.heap.size := by have := h2.size; omega
              have HWR := hid (bl_rune w2.heap.size w2.heap.size (T ++ [92]) (R : Int) HSC.out w5 h1 (by rw [List.length_append]; simp; omega) hW5)
              clear h1 h2 h3 HWB
              go_wp2_with fail
              refine HWR.out.mono ?_
              rintro e w6 ⟨⟨v, rfl⟩, h1, h2, h3⟩
              have hit6 := ok_iter h3 hit5 (by omega)
              have HB6 := hid (HB5.out.trans (h2.mono hw2))
              have HBL6 : Hid (Bl w2.heap.size w2.heap.size (34 :: ((bn s).take (p + K)).flatMap qb) w6) := by rw [HTK.out]; rw [List.append_assoc] at h1; exact h1
              clear h1 h2 h3 HWR
              go_wp2
              go_roundg g'
              case measure => omega
              case rel => exact ⟨p + K, hit6, HB6.out, HBL6.out, HVN.out, hpK, by omega⟩
          · rw [if_neg hqq] at HTK
            have qa : ((R : Int) == 34) = false := by simp; omega
            have qb' : ((R : Int) == 92) = false := by simp; omega
            have HC := hid (fun W => ctl_any (R : Int) W)
            by_cases hcc : (R : Int) < 32 ∨ (R : Int) = 127
            · rw [if_pos hcc] at HTK
              rw [decide_eq_true hcc] at HC
              have HFI := hid (format_any R (by omega) W (HG.out W HB2'.out))
              have hwr : IntKind.i64.wrap (R : Int) = (R : Int) := by rw [IntKind.wrap_i64]; omega
              clear hqq hcc hr0
              go_wp2_with (go_at_call 28; refine (HC.out _).mono ?_; rintro e w5 ⟨rfl, hw5⟩; obtain rfl := hw5.symm)
              refine HFI.out.mono ?_
              rintro e w5 ⟨⟨t, rfl, ht⟩, B5⟩
              have htl : t.size ≤ 2 := by rw [← bn_length, ht]; unfold hx2; split <;> simp
              have hit5 : w5.heap[w3.heap.size]? = some (.stringIter s (p + K)) := (B5.block _ (Array.getElem?_eq_some_iff.1 hit2).1).trans hit2
              have HB5 := hid (HB2'.out.trans (B5.mono HB2'.out.size))
              have hW5 : w2.heap.size ≤ w5.heap.size := by have := B5.size; omega
              have HWR := hid (bl_str w2.heap.size w2.heap.size T (⟨#[92, 117, 123]⟩ ++ t ++ ⟨#[125]⟩) w5 (HBL2.out.below B5) (by omega) (by rw [ByteArray.size_append, ByteArray.size_append]; show 3 + t.size + 1 ≤ _; omega) hW5)
              have HTT : Hid (bn (⟨#[92, 117, 123]⟩ ++ t ++ ⟨#[125]⟩) = [92, 117, 123] ++ hx2 R ++ [125]) := by
                show _ = _
                rw [bn_append, bn_append, ht]; rfl
              rw [HTT.out] at HWR
              clear ht B5 HFI
              go_wp2_with fail
              refine HWR.out.mono ?_
              rintro e w6 ⟨⟨v, rfl⟩, h1, h2, h3⟩
              have hit6 := ok_iter h3 hit5 (by omega)
              have HB6 := hid (HB5.out.trans (h2.mono hw2))
              have HBL6 : Hid (Bl w2.heap.size w2.heap.size (34 :: ((bn s).take (p + K)).flatMap qb) w6) := by rw [HTK.out]; exact h1
              clear h1 h2 h3 HWR
              go_wp2
              go_roundg g'
              case measure => omega
              case rel => exact ⟨p + K, hit6, HB6.out, HBL6.out, HVN.out, hpK, by omega⟩
            · rw [if_neg hcc] at HTK
              rw [decide_eq_false hcc] at HC
              have HWR := hid (bl_rune w2.heap.size w2.heap.size T (R : Int) HSC.out W HBL2.out (by omega) hWs)
              clear hqq hcc hr0
              go_wp2_with (go_at_call 28; refine (HC.out _).mono ?_; rintro e w5 ⟨rfl, hw5⟩; obtain rfl := hw5.symm)
              refine HWR.out.mono ?_
              rintro e w6 ⟨⟨v, rfl⟩, h1, h2, h3⟩
              have hit6 := ok_iter h3 hit2 (by omega)
              have HB6 := hid (HB2'.out.trans (h2.mono hw2))
              have HBL6 : Hid (Bl w2.heap.size w2.heap.size (34 :: ((bn s).take (p + K)).flatMap qb) w6) := by rw [HTK.out]; exact h1
              clear h1 h2 h3 HWR
              go_wp2
              go_roundg g'
              case measure => omega
              case rel => exact ⟨p + K, hit6, HB6.out, HBL6.out, HVN.out, hpK, by omega⟩
        · have hnx : ∀ ty, (Instr.next (.pointer (some ⟨w3.heap.size, 0, none⟩)) true ty).run Tryd.prog wr = _ := fun ty => Lib.run_next_end_at wr w3.heap.size s p ty hit hps
          have hpe : (bn s).take p = bn s := List.take_of_length_le (by rw [bn_length]; omega)
          rw [hpe] at HBL
          have hwr2 : w2.heap.size ≤ wr.heap.size := by have := (Array.getElem?_eq_some_iff.1 hit).1; omega
          have hTl : (34 :: (bn s).flatMap qb).length ≤ 1000000 := by
            have h1 := flat_len (bn s)
            rw [bn_length] at h1
            rw [List.length_cons]
            omega
          have HWB := hid (bl_byte w2.heap.size w2.heap.size (34 :: (bn s).flatMap qb) 34 (by omega) (by omega) wr HBL.out (by omega) hwr2)
          have hw2 := HB2.out.size
          clear hpe HBL
          go_wp2_with fail
          refine HWB.out.mono ?_
          rintro e w5 ⟨rfl, h1, h2, h3⟩
          have HB5 := hid (HB.out.trans (h2.mono hw2))
          have hW5 : w2.heap.size ≤ w5.heap.size := by have := h2.size; omega
          have HSD := hid (bl_said w2.heap.size w2.heap.size _ w5 h1 hW5)
          clear h1 h2 h3 HWB
          go_wp2_with fail
          refine HSD.out.mono ?_
          rintro e w6 ⟨⟨t, ht, rfl⟩, B⟩
          have HF2 := hid (HF.out t (by rw [ht]; rfl))
          have HB6 := hid (HB5.out.trans (B.mono hw2))
          clear ht B HSD
          go_wp2
          go_ret2
          exact ⟨HF2.out, HB6.out⟩
end Go.Proofs.YtphkdagapoonjaaDoor.Lx
