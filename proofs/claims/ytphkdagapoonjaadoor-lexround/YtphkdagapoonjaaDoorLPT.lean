/- lex.written, Write. (Stage 15.) (Written by mk_lpt.py.) -/
import Derived.Test.YtphkdagapoonjaaDoorLPS
namespace Go.Proofs.YtphkdagapoonjaaDoor.Lx
open Go.RowKit
open Go.Proofs.YtphkdagapoonjaaDoor.F (bn bn_length bn_append bn_inj bn_get byte_bd hid bn_extract isEmpty_false isEmpty_true str_eq same_eq)
open Go.Proofs.YtphkdagapoonjaaDoor.U (nx enc encs scal val Bytes)
set_option linter.unusedVariables false

/-- How a token is written. -/
def WnR (k : Nat) (x : List Int) (e : Ending) : Prop :=
  (∃ u : ByteArray, bn u = tw ⟨k, x, 0, 0⟩ ∧ e = .returned (.tuple #[.string u, .int .i64 0])) ∨ (65536 < (tw ⟨k, x, 0, 0⟩).length ∧ ∃ u : ByteArray, e = .returned (.tuple #[.string u, .int .i64 4]))
theorem tw_at (k : Nat) (x : List Int) (n a : Nat) : tw ⟨k, x, n, a⟩ = tw ⟨k, x, 0, 0⟩ := rfl
theorem flat_ge : ∀ (x : List Int), x.length ≤ (x.flatMap qb).length
  | [] => Nat.le_refl _
  | c :: x => by
    have := qb_pos c
    have := flat_ge x
    rw [List.flatMap_cons, List.length_append, List.length_cons]
    omega
theorem tw_bd (k : Nat) (x : List Int) : (tw ⟨k, x, 0, 0⟩).length ≤ 6 * x.length + 2 := by
  have h := flat_len x
  unfold tw qt
  (repeat' split)
  · simp only; omega
  · rw [List.length_cons, List.length_append]; simp only [List.length_cons, List.length_nil]; omega
  · simp
  · simp
  · simp
set_option maxRecDepth 100000 in
set_option maxHeartbeats 4000000 in
theorem written_any (t : Tb) (htok : tok t.k (bn t.x)) (hs : t.x.size ≤ 1000000) (w : World) (G : Gl w) : Calls Tryd.prog 13 #[.agg (tcs t)] w fun e w' => WnR t.k (bn t.x) e ∧ Below w.heap.size w w' := by
  obtain ⟨k, x, n, a⟩ := t
  simp only at htok hs ⊢
  obtain ⟨W0, hW0⟩ : ∃ W0, w.alloc (.cells (tcs ⟨k, x, n, a⟩) 35) = W0 := ⟨_, rfl⟩
  have hb0 : W0.heap[w.heap.size]? = some (Obj.cells (tcs ⟨k, x, n, a⟩) 35 (0, 0)) := by rw [← hW0]; exact heap_alloc_new w _
  have c0 : W0.cell? ⟨w.heap.size, 0, none⟩ = some (.int .u8 (k : Int)) := cell_of_row _ _ _ _ _ _ hb0
  have c1 : W0.cell? ⟨w.heap.size, 1, none⟩ = some (.string x) := cell_of_row _ _ _ _ _ _ hb0
  have HB0 : Hid (Below w.heap.size w W0) := by show Below _ _ _; rw [← hW0]; exact (Below.refl _ w).alloc (Nat.le_refl _) _
  have HQ := hid (quote_any x hs W0 (G.below HB0.out))
  clear G hb0
  rcases htok with ⟨rfl, hw⟩ | ⟨rfl, hv⟩ | ⟨hk, hx⟩
  · have HF : Hid (WnR 1 (bn x) (.returned (.tuple #[.string x, .int .i64 0]))) := .inl ⟨x, rfl, rfl⟩
    clear hw HQ
    go_enter Tryd.func13, Tryd.ntmps13
    go_wp2
    go_ret2
    exact ⟨HF.out, HB0.out⟩
  · go_enter Tryd.func13, Tryd.ntmps13
    go_wp2_with fail
    refine HQ.out.mono ?_
    rintro e w2 ⟨⟨u, hu, rfl⟩, B⟩
    have HB2 := hid (HB0.out.trans (B.mono HB0.out.size))
    have HF : Hid (WnR 2 (bn x) (.returned (.tuple #[.string u, .int .i64 (quote (bn x)).2]))) := by
      unfold quote at hu ⊢
      rw [if_neg (by simp [hv])] at hu ⊢
      by_cases hl : 65536 < (bn x).length
      · rw [if_pos hl]
        refine .inr ⟨?_, u, rfl⟩
        have h1 := flat_ge (bn x)
        show 65536 < (qt (bn x)).length
        unfold qt
        rw [List.length_cons, List.length_append]
        omega
      · rw [if_neg hl] at hu ⊢
        exact .inl ⟨u, hu, rfl⟩
    obtain ⟨z, hz⟩ : ∃ z, (quote (bn x)).2 = z := ⟨_, rfl⟩
    rw [hz] at HF ⊢
    clear hu hv hz B HQ
    go_wp2
    go_ret2
    exact ⟨HF.out, HB2.out⟩
  · have hqs : k = 3 ∨ k = 4 ∨ k = 5 := hk
    clear hk HQ
    rcases hqs with rfl | rfl | rfl
    · have HF : Hid (WnR 3 (bn x) (.returned (.tuple #[.string ⟨#[44]⟩, .int .i64 0]))) := .inl ⟨⟨#[44]⟩, rfl, rfl⟩
      go_enter Tryd.func13, Tryd.ntmps13
      go_wp2
      go_ret2
      exact ⟨HF.out, HB0.out⟩
    · have HF : Hid (WnR 4 (bn x) (.returned (.tuple #[.string ⟨#[33]⟩, .int .i64 0]))) := .inl ⟨⟨#[33]⟩, rfl, rfl⟩
      go_enter Tryd.func13, Tryd.ntmps13
      go_wp2
      go_ret2
      exact ⟨HF.out, HB0.out⟩
    · have HF : Hid (WnR 5 (bn x) (.returned (.tuple #[.string ⟨#[10]⟩, .int .i64 0]))) := .inl ⟨⟨#[10]⟩, rfl, rfl⟩
      go_enter Tryd.func13, Tryd.ntmps13
      go_wp2
      go_ret2
      exact ⟨HF.out, HB0.out⟩
/-- What Write answers. -/
def WrtR (l : List Tk) (e : Ending) : Prop :=
  (¬ ok 5 l ∧ e = .returned (.tuple #[.string ⟨#[]⟩, .int .i64 2])) ∨ (ok 5 l ∧ 65536 < (wr 5 l).length ∧ e = .returned (.tuple #[.string ⟨#[]⟩, .int .i64 4])) ∨
  (ok 5 l ∧ (wr 5 l).length ≤ 65536 ∧ ∃ u : ByteArray, bn u = wr 5 l ∧ e = .returned (.tuple #[.string u, .int .i64 0]))
theorem sep_blank (a k : Nat) : sep a k = if blank a k = true then [32] else [] := by
  unfold sep blank
  by_cases h : a ≠ 5 ∧ a ≠ 4 ∧ k ≠ 3 ∧ k ≠ 5
  · rw [if_pos h, if_pos (by simp; omega)]
  · rw [if_neg h, if_neg (by simp; omega)]
theorem ok_row {b : Nat} {w w' : World} {k : Nat} {cs : Array Value} (h : OK b w w') (hk : w.heap[k]? = some (Obj.cells cs 35 (0, 0))) (hne : k ≠ b) : w'.heap[k]? = some (Obj.cells cs 35 (0, 0)) :=
  h k _ hk (fun e => hne (Option.some.inj e)) (fun c fz e => by injection e with _ e; exact absurd e (by decide))
set_option maxRecDepth 100000 in
set_option maxHeartbeats 8000000 in
theorem write_any (a : Option Addr) (n c : Nat) (l : List Tb) (w : World) (hat : TokAt w (.slice a n c) l) (hn : n ≤ 1000000) (hs : Sml l) (G : Gl w) :
    Calls Tryd.prog 7 #[.slice a n c] w fun e w' => WrtR (l.map Tb.tk) e ∧ Below w.heap.size w w' := by
  obtain rfl := hat.len
  have HAR := hid (arl_any a _ c l w hat hn hs G)
  have HA := hid hat
  have HS := hid hs
  have HG := hid (fun W (h : Below w.heap.size w W) => G.below h)
  clear hat hs G
  go_enter Tryd.func7, Tryd.ntmps7
  go_wp2_with fail
  refine HAR.out.mono ?_
  rintro e w2 ⟨⟨hok, rfl⟩ | ⟨hok, rfl⟩, B2⟩
  rotate_left
  · have HF : Hid (WrtR (l.map Tb.tk) (.returned (.tuple #[.string ⟨#[]⟩, .int .i64 2]))) := .inl ⟨hok, rfl⟩
    clear hok HAR
    go_wp2
    go_ret2
    exact ⟨HF.out, B2⟩
  have HOK := hid hok
  have hw2 := B2.size
  have HN := hid (Bl.new w2)
  have HB2 := hid (B2.alloc B2.size (.cells #[.pointer none, .slice none 0 0] 40))
  have HBB := hid B2
  clear hok B2 HAR
  go_wp2_with fail
  go_loopw [5, 15] (fun v5 v15 wr => ∃ (i last : Nat) (T : List Int), v5 = .int .u8 (last : Int) ∧ v15 = .int .i64 (i : Int) ∧ i ≤ l.length ∧ last ≤ 255 ∧ T.length ≤ 65536 ∧ Hid (Bl w2.heap.size w2.heap.size T wr) ∧ Hid (Lx.wr 5 (l.map Tb.tk) = T ++ Lx.wr last ((l.drop i).map Tb.tk)) ∧ Hid (ok last ((l.drop i).map Tb.tk)) ∧ w2.heap.size < wr.heap.size ∧ Hid (Below w.heap.size w wr)) (fun _ v15 _ => l.length - (intOf v15).toNat)
  case atStart => exact ⟨0, 5, [], by rfl, by rfl, by omega, by omega, by simp, HN.out, rfl, HOK.out, by simp, HB2.out⟩
  case round =>
    obtain ⟨i, last, T, rfl, rfl, hi, hl5, hTl, HBL, HT, HO, hws, HB⟩ := hrel
    by_cases hlt : i < l.length
    · obtain ⟨b, off, rfl, e0, e1, e2, e3⟩ := HA.out.cell hlt
      obtain ⟨⟨k, x, nn', aa⟩, ht⟩ : ∃ t, l[i]?.getD z4 = t := ⟨_, rfl⟩
      rw [ht] at e0 e1 e2 e3
      have f0 := keeps HB.out e0
      have f1 := keeps HB.out e1
      have f2 := keeps HB.out e2
      have f3 := keeps HB.out e3
      simp only at f0 f1 f2 f3
      clear e0 e1 e2 e3
      obtain ⟨hk, hx⟩ : k ≤ 255 ∧ x.size ≤ 1000000 := by
        have hm : l[i]?.getD z4 ∈ l := by rw [List.getElem?_eq_getElem hlt]; exact List.getElem_mem hlt
        rw [ht] at hm
        exact HS.out _ hm
      have hdr : (l.drop i).map Tb.tk = ⟨k, bn x, nn'.toNat, aa.toNat⟩ :: (l.drop (i + 1)).map Tb.tk := by
        rw [List.drop_eq_getElem_cons hlt, List.map_cons]
        rw [List.getElem?_eq_getElem hlt] at ht
        have ht' : l[i] = ⟨k, x, nn', aa⟩ := ht
        rw [ht']; rfl
      have hO := HO.out
      have hT := HT.out
      rw [hdr] at hO hT
      rw [ok_cons] at hO
      rw [Lx.wr] at hT
      simp only at hO hT
      rw [tw_at, sep_blank] at hT
      obtain ⟨⟨hw, -⟩, hon⟩ := hO
      have HON := hid hon
      obtain ⟨W0, hW0⟩ : ∃ W0, wr.alloc (.cells (tcs ⟨k, x, nn', aa⟩) 35) = W0 := ⟨_, rfl⟩
      have HBX0 : Hid (Below w.heap.size w W0) := by show Below _ _ _; rw [← hW0]; exact HB.out.alloc HB.out.size _
      have HRX0 : Hid (W0.heap[wr.heap.size]? = some (Obj.cells (tcs ⟨k, x, nn', aa⟩) 35 (0, 0))) := by show _ = _; rw [← hW0]; exact heap_alloc_new wr _
      have HBLX0 : Hid (Bl w2.heap.size w2.heap.size T W0) := by rw [← hW0]; exact HBL.out.alloc _
      have hws0 : w2.heap.size < W0.heap.size := by have := (Array.getElem?_eq_some_iff.1 HRX0.out).1; omega
      have hc0 : W0.cell? ⟨wr.heap.size, 0, none⟩ = some (.int .u8 (k : Int)) := cell_of_row _ _ _ _ _ _ HRX0.out
      have HBK := hid (fun W => blank_any last k W)
      have HTT := hid hT
      clear HO HT hdr ht hT hon HBL HN HB2
      cases hbl : blank last k with
      | true =>
        rw [hbl] at HBK
        have HT2 : Hid (Lx.wr 5 (l.map Tb.tk) = ((T ++ [32]) ++ tw ⟨k, bn x, 0, 0⟩) ++ Lx.wr k ((l.drop (i + 1)).map Tb.tk)) := by
          show _ = _
          rw [HTT.out, if_pos hbl]; simp
        have HWB := hid (bl_byte w2.heap.size w2.heap.size T 32 (by omega) (by omega) W0 HBLX0.out (by omega) (by omega))
        clear hbl HTT
        go_wp2_with (go_at_call 11; refine (HBK.out _).mono ?_; rintro e w3 ⟨rfl, hw3⟩; obtain rfl := hw3.symm)
        refine HWB.out.mono ?_
        rintro e w3 ⟨rfl, h1, h2, h3⟩
        have HBLX := hid h1
        have HBX := hid (HBX0.out.trans (h2.mono hw2))
        have HRX := hid (ok_row h3 HRX0.out (by omega))
        have hws3 : w2.heap.size < w3.heap.size := by have := h2.size; omega
        clear h1 h2 h3 HWB hW0 hc0
        have HWN := hid (written_any ⟨k, x, nn', aa⟩ hw (by simp only; omega) w3 (HG.out w3 HBX.out))
        have x0 : w3.cell? ⟨wr.heap.size, 0, none⟩ = some (.int .u8 (k : Int)) := cell_of_row _ _ _ _ _ _ HRX.out
        have x1 : w3.cell? ⟨wr.heap.size, 1, none⟩ = some (.string x) := cell_of_row _ _ _ _ _ _ HRX.out
        have x2 : w3.cell? ⟨wr.heap.size, 2, none⟩ = some (.int .i64 nn') := cell_of_row _ _ _ _ _ _ HRX.out
        have x3 : w3.cell? ⟨wr.heap.size, 3, none⟩ = some (.int .i64 aa) := cell_of_row _ _ _ _ _ _ HRX.out
        simp only at HWN
        clear hw
        go_wp2_with fail
        refine HWN.out.mono ?_
        rintro e w4 ⟨⟨u, hu, rfl⟩ | ⟨hlong, u, rfl⟩, B4⟩
        · have HB4 := hid (HBX.out.trans (B4.mono HBX.out.size))
          have HRX4 : Hid (w4.heap[wr.heap.size]? = some (Obj.cells (tcs ⟨k, x, nn', aa⟩) 35 (0, 0))) := (B4.block _ (Array.getElem?_eq_some_iff.1 HRX.out).1).trans HRX.out
          have HBL4 := hid (HBLX.out.below B4)
          have hw4 : w2.heap.size < w4.heap.size := by have := B4.size; omega
          have HLN := hid (bl_len w2.heap.size w2.heap.size _ w4 HBL4.out)
          have hul : u.size = (tw ⟨k, bn x, 0, 0⟩).length := by rw [← hu, bn_length]
          have HU := hid hu
          have hus : u.size ≤ 6000002 := by have := tw_bd k (bn x); rw [bn_length] at this; omega
          obtain ⟨N, hN⟩ : ∃ N, ((T ++ [32])).length = N := ⟨_, rfl⟩
          rw [hN] at HLN
          have hNl : N ≤ 65537 := by rw [← hN]; first | (rw [List.length_append]; simp; omega) | omega
          by_cases hbig : 65536 < N + u.size
          · have HF : Hid (WrtR (l.map Tb.tk) (.returned (.tuple #[.string ⟨#[]⟩, .int .i64 4]))) := .inr (.inl ⟨HOK.out, by
              rw [HT2.out, List.length_append, List.length_append, hN, ← hul]; omega, rfl⟩)
            have hbigz : (65536 : Int) < (N : Int) + (u.size : Int) := by omega
            clear hN hul hu x0 x1 x2 x3 HWN B4 HT2 hbig
            go_wp2_with fail
            refine HLN.out.mono ?_
            rintro e w5 ⟨rfl, rfl⟩
            go_wp2
            go_ret2
            exact ⟨HF.out, HB4.out⟩
          · have hbigz : ¬ (65536 : Int) < (N : Int) + (u.size : Int) := by omega
            have HWS := hid (bl_str w2.heap.size w2.heap.size _ u w4 HBL4.out (by rw [hN]; omega) (by omega) (by omega))
            have hTn : ((T ++ [32]) ++ bn u).length ≤ 65536 := by rw [List.length_append, hN, bn_length]; omega
            have HT3 : Hid (Lx.wr 5 (l.map Tb.tk) = ((T ++ [32]) ++ bn u) ++ Lx.wr k ((l.drop (i + 1)).map Tb.tk)) := by
              show _ = _
              rw [HT2.out, hu, List.append_assoc]
            clear hN hul hu x0 x1 x2 x3 HWN B4 HT2 hbig HU
            go_wp2_with fail
            refine HLN.out.mono ?_
            rintro e w5 ⟨rfl, rfl⟩
            go_wp2_with fail
            refine HWS.out.mono ?_
            rintro e w6 ⟨⟨v, rfl⟩, h1, h2, h3⟩
            have hrow := ok_row h3 HRX4.out (by omega)
            have y0 : w6.cell? ⟨wr.heap.size, 0, none⟩ = some (.int .u8 (k : Int)) := cell_of_row _ _ _ _ _ _ hrow
            have HBL6 := hid h1
            have hw6 : w2.heap.size < w6.heap.size := by have := h2.size; omega
            have HB6 := hid (HB4.out.trans (h2.mono hw2))
            clear h1 h2 h3 hrow HWS HLN
            go_wp2
            go_roundw
            case rel => exact ⟨i + 1, k, (T ++ [32]) ++ bn u, by rfl, by go_num, by omega, by omega, hTn, HBL6.out, HT3.out, HON.out, hw6, HB6.out⟩
            case measure => simp [intOf]; omega
        · have HB4 := hid (HBX.out.trans (B4.mono HBX.out.size))
          have HF : Hid (WrtR (l.map Tb.tk) (.returned (.tuple #[.string ⟨#[]⟩, .int .i64 4]))) := .inr (.inl ⟨HOK.out, by
            rw [HT2.out, List.length_append, List.length_append]; omega, rfl⟩)
          clear hlong x0 x1 x2 x3 HWN B4 HT2
          go_wp2
          go_ret2
          exact ⟨HF.out, HB4.out⟩
      | false =>
        rw [hbl] at HBK
        have HT2 : Hid (Lx.wr 5 (l.map Tb.tk) = (T ++ tw ⟨k, bn x, 0, 0⟩) ++ Lx.wr k ((l.drop (i + 1)).map Tb.tk)) := by
          show _ = _
          rw [HTT.out, if_neg (by simp [hbl])]; simp
        have HBLX := HBLX0
        have HBX := HBX0
        have HRX := HRX0
        clear hbl HTT
        go_wp2_with fail
        refine (HBK.out _).mono ?_
        rintro e w3 ⟨rfl, hw3⟩
        obtain rfl := hw3.symm
        clear hW0 hc0
        have HWN := hid (written_any ⟨k, x, nn', aa⟩ hw (by simp only; omega) W0 (HG.out W0 HBX.out))
        have x0 : W0.cell? ⟨wr.heap.size, 0, none⟩ = some (.int .u8 (k : Int)) := cell_of_row _ _ _ _ _ _ HRX.out
        have x1 : W0.cell? ⟨wr.heap.size, 1, none⟩ = some (.string x) := cell_of_row _ _ _ _ _ _ HRX.out
        have x2 : W0.cell? ⟨wr.heap.size, 2, none⟩ = some (.int .i64 nn') := cell_of_row _ _ _ _ _ _ HRX.out
        have x3 : W0.cell? ⟨wr.heap.size, 3, none⟩ = some (.int .i64 aa) := cell_of_row _ _ _ _ _ _ HRX.out
        simp only at HWN
        clear hw
        go_wp2_with fail
        refine HWN.out.mono ?_
        rintro e w4 ⟨⟨u, hu, rfl⟩ | ⟨hlong, u, rfl⟩, B4⟩
        · have HB4 := hid (HBX.out.trans (B4.mono HBX.out.size))
          have HRX4 : Hid (w4.heap[wr.heap.size]? = some (Obj.cells (tcs ⟨k, x, nn', aa⟩) 35 (0, 0))) := (B4.block _ (Array.getElem?_eq_some_iff.1 HRX.out).1).trans HRX.out
          have HBL4 := hid (HBLX.out.below B4)
          have hw4 : w2.heap.size < w4.heap.size := by have := B4.size; omega
          have HLN := hid (bl_len w2.heap.size w2.heap.size _ w4 HBL4.out)
          have hul : u.size = (tw ⟨k, bn x, 0, 0⟩).length := by rw [← hu, bn_length]
          have HU := hid hu
          have hus : u.size ≤ 6000002 := by have := tw_bd k (bn x); rw [bn_length] at this; omega
          obtain ⟨N, hN⟩ : ∃ N, (T).length = N := ⟨_, rfl⟩
          rw [hN] at HLN
          have hNl : N ≤ 65537 := by rw [← hN]; first | (rw [List.length_append]; simp; omega) | omega
          by_cases hbig : 65536 < N + u.size
          · have HF : Hid (WrtR (l.map Tb.tk) (.returned (.tuple #[.string ⟨#[]⟩, .int .i64 4]))) := .inr (.inl ⟨HOK.out, by
              rw [HT2.out, List.length_append, List.length_append, hN, ← hul]; omega, rfl⟩)
            have hbigz : (65536 : Int) < (N : Int) + (u.size : Int) := by omega
            clear hN hul hu x0 x1 x2 x3 HWN B4 HT2 hbig
            go_wp2_with fail
            refine HLN.out.mono ?_
            rintro e w5 ⟨rfl, rfl⟩
            go_wp2
            go_ret2
            exact ⟨HF.out, HB4.out⟩
          · have hbigz : ¬ (65536 : Int) < (N : Int) + (u.size : Int) := by omega
            have HWS := hid (bl_str w2.heap.size w2.heap.size _ u w4 HBL4.out (by rw [hN]; omega) (by omega) (by omega))
            have hTn : (T ++ bn u).length ≤ 65536 := by rw [List.length_append, hN, bn_length]; omega
            have HT3 : Hid (Lx.wr 5 (l.map Tb.tk) = (T ++ bn u) ++ Lx.wr k ((l.drop (i + 1)).map Tb.tk)) := by
              show _ = _
              rw [HT2.out, hu, List.append_assoc]
            clear hN hul hu x0 x1 x2 x3 HWN B4 HT2 hbig HU
            go_wp2_with fail
            refine HLN.out.mono ?_
            rintro e w5 ⟨rfl, rfl⟩
            go_wp2_with fail
            refine HWS.out.mono ?_
            rintro e w6 ⟨⟨v, rfl⟩, h1, h2, h3⟩
            have hrow := ok_row h3 HRX4.out (by omega)
            have y0 : w6.cell? ⟨wr.heap.size, 0, none⟩ = some (.int .u8 (k : Int)) := cell_of_row _ _ _ _ _ _ hrow
            have HBL6 := hid h1
            have hw6 : w2.heap.size < w6.heap.size := by have := h2.size; omega
            have HB6 := hid (HB4.out.trans (h2.mono hw2))
            clear h1 h2 h3 hrow HWS HLN
            go_wp2
            go_roundw
            case rel => exact ⟨i + 1, k, T ++ bn u, by rfl, by go_num, by omega, by omega, hTn, HBL6.out, HT3.out, HON.out, hw6, HB6.out⟩
            case measure => simp [intOf]; omega
        · have HB4 := hid (HBX.out.trans (B4.mono HBX.out.size))
          have HF : Hid (WrtR (l.map Tb.tk) (.returned (.tuple #[.string ⟨#[]⟩, .int .i64 4]))) := .inr (.inl ⟨HOK.out, by
            rw [HT2.out, List.length_append, List.length_append]; omega, rfl⟩)
          clear hlong x0 x1 x2 x3 HWN B4 HT2
          go_wp2
          go_ret2
          exact ⟨HF.out, HB4.out⟩
    · have hie : l.drop i = [] := List.drop_eq_nil_of_le (by omega)
      have HFE : Hid (Lx.wr 5 (l.map Tb.tk) = T) := by
        have h := HT.out
        rw [hie] at h
        show _ = _
        rw [h]; simp [Lx.wr]
      have HSD := hid (bl_said w2.heap.size w2.heap.size T wr HBL.out (by omega))
      clear HT hie HBL HN HB2
      go_wp2_with fail
      refine HSD.out.mono ?_
      rintro e w6 ⟨⟨u, hu, rfl⟩, B⟩
      have HF : Hid (WrtR (l.map Tb.tk) (.returned (.tuple #[.string u, .int .i64 0]))) := .inr (.inr ⟨HOK.out, by rw [HFE.out]; exact hTl, u, by rw [HFE.out]; exact hu, rfl⟩)
      have HB6 := hid (HB.out.trans (B.mono hw2))
      clear hu B HSD
      go_wp2
      go_ret2
      exact ⟨HF.out, HB6.out⟩
end Go.Proofs.YtphkdagapoonjaaDoor.Lx
