/- lex.written, Write; Some answers that the document fixes; The law's alive; Whether tokens are more than a statement looks at. -/
import Derived.Test.YtphkdagapoonjaaGreatDoorZLPR
import Derived.Test.YtphkdagapoonjaaGreatDoorLPN
import Derived.Test.YtphkdagapoonjaaGreatDoorZLXE
import Derived.ProofKit
namespace Go.Proofs.YtphkdagapoonjaaGreatDoor.Lx
open Go.RowKit
open Go.Proofs.YtphkdagapoonjaaGreatDoor.F (bn bn_length bn_append bn_inj bn_get byte_bd hid bn_extract isEmpty_false isEmpty_true str_eq same_eq)
open Go.Proofs.YtphkdagapoonjaaGreatDoor.U (nx enc encs scal val Bytes)
set_option linter.unusedVariables false

/-- How a token is written. -/
def WnR (k : Nat) (x : List Int) (e : Ending) : Prop :=
  (∃ u : ByteArray, bn u = tw ⟨k, x, 0, 0⟩ ∧ e = .returned (.tuple #[.string u, .int .i64 0])) ∨ (65536 < (tw ⟨k, x, 0, 0⟩).length ∧ ∃ u : ByteArray, e = .returned (.tuple #[.string u, .int .i64 4]))
theorem tw_at (k : Nat) (x : List Int) (n a : Nat) : tw ⟨k, x, n, a⟩ = tw ⟨k, x, 0, 0⟩ := rfl
theorem flat_ge : ∀ (x : List Int), x.length ≤ (x.flatMap qb).length
  | [] => Nat.le_refl _
  | c :: x => by
    have := qb_pos c
    have := flat_ge x
    rw [List.flatMap_cons, List.length_append, List.length_cons]
    omega
theorem tw_bd (k : Nat) (x : List Int) : (tw ⟨k, x, 0, 0⟩).length ≤ 6 * x.length + 2 := by
  have h := flat_len x
  unfold tw qt
  (repeat' split)
  · simp only; omega
  · rw [List.length_cons, List.length_append]; simp only [List.length_cons, List.length_nil]; omega
  · simp
  · simp
  · simp
set_option maxRecDepth 100000 in
set_option maxHeartbeats 4000000 in
theorem written_any (t : Tb) (htok : tok t.k (bn t.x)) (hs : t.x.size ≤ 1000000) (w : World) (G : Gl w) : Calls Tryz.prog 22 #[.agg (tcs t)] w fun e w' => WnR t.k (bn t.x) e ∧ Below w.heap.size w w' := by
  obtain ⟨k, x, n, a⟩ := t
  simp only at htok hs ⊢
  obtain ⟨W0, hW0⟩ : ∃ W0, w.alloc (.cells (tcs ⟨k, x, n, a⟩) 40) = W0 := ⟨_, rfl⟩
  have hb0 : W0.heap[w.heap.size]? = some (Obj.cells (tcs ⟨k, x, n, a⟩) 40 (0, 0)) := by rw [← hW0]; exact heap_alloc_new w _
  have c0 : W0.cell? ⟨w.heap.size, 0, none⟩ = some (.int .u8 (k : Int)) := cell_of_row _ _ _ _ _ _ hb0
  have c1 : W0.cell? ⟨w.heap.size, 1, none⟩ = some (.string x) := cell_of_row _ _ _ _ _ _ hb0
  have HB0 : Hid (Below w.heap.size w W0) := by show Below _ _ _; rw [← hW0]; exact (Below.refl _ w).alloc (Nat.le_refl _) _
  have HQ := hid (quote_any x hs W0 (G.below HB0.out))
  clear G hb0
  rcases htok with ⟨rfl, hw⟩ | ⟨rfl, hv⟩ | ⟨hk, hx⟩
  · have HF : Hid (WnR 1 (bn x) (.returned (.tuple #[.string x, .int .i64 0]))) := .inl ⟨x, rfl, rfl⟩
    clear hw HQ
    go_enter Tryz.func22, Tryz.ntmps22
    go_wp2
    go_ret2
    exact ⟨HF.out, HB0.out⟩
  · go_enter Tryz.func22, Tryz.ntmps22
    go_wp2_with fail
    refine HQ.out.mono ?_
    rintro e w2 ⟨⟨u, hu, rfl⟩, B⟩
    have HB2 := hid (HB0.out.trans (B.mono HB0.out.size))
    have HF : Hid (WnR 2 (bn x) (.returned (.tuple #[.string u, .int .i64 (quote (bn x)).2]))) := by
      unfold quote at hu ⊢
      rw [if_neg (by simp [hv])] at hu ⊢
      by_cases hl : 65536 < (bn x).length
      · rw [if_pos hl]
        refine .inr ⟨?_, u, rfl⟩
        have h1 := flat_ge (bn x)
        show 65536 < (qt (bn x)).length
        unfold qt
        rw [List.length_cons, List.length_append]
        omega
      · rw [if_neg hl] at hu ⊢
        exact .inl ⟨u, hu, rfl⟩
    obtain ⟨z, hz⟩ : ∃ z, (quote (bn x)).2 = z := ⟨_, rfl⟩
    rw [hz] at HF ⊢
    clear hu hv hz B HQ
    go_wp2
    go_ret2
    exact ⟨HF.out, HB2.out⟩
  · have hqs : k = 3 ∨ k = 4 ∨ k = 5 := hk
    clear hk HQ
    rcases hqs with rfl | rfl | rfl
    · have HF : Hid (WnR 3 (bn x) (.returned (.tuple #[.string ⟨#[44]⟩, .int .i64 0]))) := .inl ⟨⟨#[44]⟩, rfl, rfl⟩
      go_enter Tryz.func22, Tryz.ntmps22
      go_wp2
      go_ret2
      exact ⟨HF.out, HB0.out⟩
    · have HF : Hid (WnR 4 (bn x) (.returned (.tuple #[.string ⟨#[33]⟩, .int .i64 0]))) := .inl ⟨⟨#[33]⟩, rfl, rfl⟩
      go_enter Tryz.func22, Tryz.ntmps22
      go_wp2
      go_ret2
      exact ⟨HF.out, HB0.out⟩
    · have HF : Hid (WnR 5 (bn x) (.returned (.tuple #[.string ⟨#[10]⟩, .int .i64 0]))) := .inl ⟨⟨#[10]⟩, rfl, rfl⟩
      go_enter Tryz.func22, Tryz.ntmps22
      go_wp2
      go_ret2
      exact ⟨HF.out, HB0.out⟩
/-- What Write answers. -/
def WrtR (l : List Tk) (e : Ending) : Prop :=
  (¬ ok 5 l ∧ e = .returned (.tuple #[.string ⟨#[]⟩, .int .i64 2])) ∨ (ok 5 l ∧ 65536 < (wr 5 l).length ∧ e = .returned (.tuple #[.string ⟨#[]⟩, .int .i64 4])) ∨
  (ok 5 l ∧ (wr 5 l).length ≤ 65536 ∧ ∃ u : ByteArray, bn u = wr 5 l ∧ e = .returned (.tuple #[.string u, .int .i64 0]))
theorem sep_blank (a k : Nat) : sep a k = if blank a k = true then [32] else [] := by
  unfold sep blank
  by_cases h : a ≠ 5 ∧ a ≠ 4 ∧ k ≠ 3 ∧ k ≠ 5
  · rw [if_pos h, if_pos (by simp; omega)]
  · rw [if_neg h, if_neg (by simp; omega)]
theorem ok_row {b : Nat} {w w' : World} {k : Nat} {cs : Array Value} (h : OK b w w') (hk : w.heap[k]? = some (Obj.cells cs 40 (0, 0))) (hne : k ≠ b) : w'.heap[k]? = some (Obj.cells cs 40 (0, 0)) :=
  h k _ hk (fun e => hne (Option.some.inj e)) (fun c fz e => by injection e with _ e; exact absurd e (by decide))
set_option maxRecDepth 100000 in
set_option maxHeartbeats 8000000 in
theorem write_any (a : Option Addr) (n c : Nat) (l : List Tb) (w : World) (hat : TokAt w (.slice a n c) l) (hn : n ≤ 1000000) (hs : Sml l) (G : Gl w) :
    Calls Tryz.prog 10 #[.slice a n c] w fun e w' => WrtR (l.map Tb.tk) e ∧ Below w.heap.size w w' := by
  obtain rfl := hat.len
  have HAR := hid (arl_any a _ c l w hat hn hs G)
  have HA := hid hat
  have HS := hid hs
  have HG := hid (fun W (h : Below w.heap.size w W) => G.below h)
  clear hat hs G
  go_enter Tryz.func10, Tryz.ntmps10
  go_wp2_with fail
  refine HAR.out.mono ?_
  rintro e w2 ⟨⟨hok, rfl⟩ | ⟨hok, rfl⟩, B2⟩
  rotate_left
  · have HF : Hid (WrtR (l.map Tb.tk) (.returned (.tuple #[.string ⟨#[]⟩, .int .i64 2]))) := .inl ⟨hok, rfl⟩
    clear hok HAR
    go_wp2
    go_ret2
    exact ⟨HF.out, B2⟩
  have HOK := hid hok
  have hw2 := B2.size
  have HN := hid (Bl.new w2)
  have HB2 := hid (B2.alloc B2.size (.cells #[.pointer none, .slice none 0 0] 51))
  have HBB := hid B2
  clear hok B2 HAR
  go_wp2_with fail
  go_loopw [5, 15] (fun v5 v15 wr => ∃ (i last : Nat) (T : List Int), v5 = .int .u8 (last : Int) ∧ v15 = .int .i64 (i : Int) ∧ i ≤ l.length ∧ last ≤ 255 ∧ T.length ≤ 65536 ∧ Hid (Bl w2.heap.size w2.heap.size T wr) ∧ Hid (Lx.wr 5 (l.map Tb.tk) = T ++ Lx.wr last ((l.drop i).map Tb.tk)) ∧ Hid (ok last ((l.drop i).map Tb.tk)) ∧ w2.heap.size < wr.heap.size ∧ Hid (Below w.heap.size w wr)) (fun _ v15 _ => l.length - (intOf v15).toNat)
  case atStart => exact ⟨0, 5, [], by rfl, by rfl, by omega, by omega, by simp, HN.out, rfl, HOK.out, by simp, HB2.out⟩
  case round =>
    obtain ⟨i, last, T, rfl, rfl, hi, hl5, hTl, HBL, HT, HO, hws, HB⟩ := hrel
    by_cases hlt : i < l.length
    · obtain ⟨b, off, rfl, e0, e1, e2, e3⟩ := HA.out.cell hlt
      obtain ⟨⟨k, x, nn', aa⟩, ht⟩ : ∃ t, l[i]?.getD z4 = t := ⟨_, rfl⟩
      rw [ht] at e0 e1 e2 e3
      have f0 := keeps HB.out e0
      have f1 := keeps HB.out e1
      have f2 := keeps HB.out e2
      have f3 := keeps HB.out e3
      simp only at f0 f1 f2 f3
      clear e0 e1 e2 e3
      obtain ⟨hk, hx⟩ : k ≤ 255 ∧ x.size ≤ 1000000 := by
        have hm : l[i]?.getD z4 ∈ l := by rw [List.getElem?_eq_getElem hlt]; exact List.getElem_mem hlt
        rw [ht] at hm
        exact HS.out _ hm
      have hdr : (l.drop i).map Tb.tk = ⟨k, bn x, nn'.toNat, aa.toNat⟩ :: (l.drop (i + 1)).map Tb.tk := by
        rw [List.drop_eq_getElem_cons hlt, List.map_cons]
        rw [List.getElem?_eq_getElem hlt] at ht
        have ht' : l[i] = ⟨k, x, nn', aa⟩ := ht
        rw [ht']; rfl
      have hO := HO.out
      have hT := HT.out
      rw [hdr] at hO hT
      rw [ok_cons] at hO
      rw [Lx.wr] at hT
      simp only at hO hT
      rw [tw_at, sep_blank] at hT
      obtain ⟨⟨hw, -⟩, hon⟩ := hO
      have HON := hid hon
      obtain ⟨W0, hW0⟩ : ∃ W0, wr.alloc (.cells (tcs ⟨k, x, nn', aa⟩) 40) = W0 := ⟨_, rfl⟩
      have HBX0 : Hid (Below w.heap.size w W0) := by show Below _ _ _; rw [← hW0]; exact HB.out.alloc HB.out.size _
      have HRX0 : Hid (W0.heap[wr.heap.size]? = some (Obj.cells (tcs ⟨k, x, nn', aa⟩) 40 (0, 0))) := by show _ = _; rw [← hW0]; exact heap_alloc_new wr _
      have HBLX0 : Hid (Bl w2.heap.size w2.heap.size T W0) := by rw [← hW0]; exact HBL.out.alloc _
      have hws0 : w2.heap.size < W0.heap.size := by have := (Array.getElem?_eq_some_iff.1 HRX0.out).1; omega
      have hc0 : W0.cell? ⟨wr.heap.size, 0, none⟩ = some (.int .u8 (k : Int)) := cell_of_row _ _ _ _ _ _ HRX0.out
      have HBK := hid (fun W => blank_any last k W)
      have HTT := hid hT
      clear HO HT hdr ht hT hon HBL HN HB2
      cases hbl : blank last k with
      | true =>
        rw [hbl] at HBK
        have HT2 : Hid (Lx.wr 5 (l.map Tb.tk) = ((T ++ [32]) ++ tw ⟨k, bn x, 0, 0⟩) ++ Lx.wr k ((l.drop (i + 1)).map Tb.tk)) := by
          show _ = _
          rw [HTT.out, if_pos hbl]; simp
        have HWB := hid (bl_byte w2.heap.size w2.heap.size T 32 (by omega) (by omega) W0 HBLX0.out (by omega) (by omega))
        clear hbl HTT
        go_wp2_with (go_at_call 20; refine (HBK.out _).mono ?_; rintro e w3 ⟨rfl, hw3⟩; obtain rfl := hw3.symm)
        refine HWB.out.mono ?_
        rintro e w3 ⟨rfl, h1, h2, h3⟩
        have HBLX := hid h1
        have HBX := hid (HBX0.out.trans (h2.mono hw2))
        have HRX := hid (ok_row h3 HRX0.out (by omega))
        have hws3 : w2.heap.size < w3.heap.size := by have := h2.size; omega
        clear h1 h2 h3 HWB hW0 hc0
        have HWN := hid (written_any ⟨k, x, nn', aa⟩ hw (by simp only; omega) w3 (HG.out w3 HBX.out))
        have x0 : w3.cell? ⟨wr.heap.size, 0, none⟩ = some (.int .u8 (k : Int)) := cell_of_row _ _ _ _ _ _ HRX.out
        have x1 : w3.cell? ⟨wr.heap.size, 1, none⟩ = some (.string x) := cell_of_row _ _ _ _ _ _ HRX.out
        have x2 : w3.cell? ⟨wr.heap.size, 2, none⟩ = some (.int .i64 nn') := cell_of_row _ _ _ _ _ _ HRX.out
        have x3 : w3.cell? ⟨wr.heap.size, 3, none⟩ = some (.int .i64 aa) := cell_of_row _ _ _ _ _ _ HRX.out
        simp only at HWN
        clear hw
        go_wp2_with fail
        refine HWN.out.mono ?_
        rintro e w4 ⟨⟨u, hu, rfl⟩ | ⟨hlong, u, rfl⟩, B4⟩
        · have HB4 := hid (HBX.out.trans (B4.mono HBX.out.size))
          have HRX4 : Hid (w4.heap[wr.heap.size]? = some (Obj.cells (tcs ⟨k, x, nn', aa⟩) 40 (0, 0))) := (B4.block _ (Array.getElem?_eq_some_iff.1 HRX.out).1).trans HRX.out
          have HBL4 := hid (HBLX.out.below B4)
          have hw4 : w2.heap.size < w4.heap.size := by have := B4.size; omega
          have HLN := hid (bl_len w2.heap.size w2.heap.size _ w4 HBL4.out)
          have hul : u.size = (tw ⟨k, bn x, 0, 0⟩).length := by rw [← hu, bn_length]
          have HU := hid hu
          have hus : u.size ≤ 6000002 := by have := tw_bd k (bn x); rw [bn_length] at this; omega
          obtain ⟨N, hN⟩ : ∃ N, ((T ++ [32])).length = N := ⟨_, rfl⟩
          rw [hN] at HLN
          have hNl : N ≤ 65537 := by rw [← hN]; first | (rw [List.length_append]; simp; omega) | omega
          by_cases hbig : 65536 < N + u.size
          · have HF : Hid (WrtR (l.map Tb.tk) (.returned (.tuple #[.string ⟨#[]⟩, .int .i64 4]))) := .inr (.inl ⟨HOK.out, by
              rw [HT2.out, List.length_append, List.length_append, hN, ← hul]; omega, rfl⟩)
            have hbigz : (65536 : Int) < (N : Int) + (u.size : Int) := by omega
            clear hN hul hu x0 x1 x2 x3 HWN B4 HT2 hbig
            go_wp2_with fail
            refine HLN.out.mono ?_
            rintro e w5 ⟨rfl, rfl⟩
            go_wp2
            go_ret2
            exact ⟨HF.out, HB4.out⟩
          · have hbigz : ¬ (65536 : Int) < (N : Int) + (u.size : Int) := by omega
            have HWS := hid (bl_str w2.heap.size w2.heap.size _ u w4 HBL4.out (by rw [hN]; omega) (by omega) (by omega))
            have hTn : ((T ++ [32]) ++ bn u).length ≤ 65536 := by rw [List.length_append, hN, bn_length]; omega
            have HT3 : Hid (Lx.wr 5 (l.map Tb.tk) = ((T ++ [32]) ++ bn u) ++ Lx.wr k ((l.drop (i + 1)).map Tb.tk)) := by
              show _ = _
              rw [HT2.out, hu, List.append_assoc]
            clear hN hul hu x0 x1 x2 x3 HWN B4 HT2 hbig HU
            go_wp2_with fail
            refine HLN.out.mono ?_
            rintro e w5 ⟨rfl, rfl⟩
            go_wp2_with fail
            refine HWS.out.mono ?_
            rintro e w6 ⟨⟨v, rfl⟩, h1, h2, h3⟩
            have hrow := ok_row h3 HRX4.out (by omega)
            have y0 : w6.cell? ⟨wr.heap.size, 0, none⟩ = some (.int .u8 (k : Int)) := cell_of_row _ _ _ _ _ _ hrow
            have HBL6 := hid h1
            have hw6 : w2.heap.size < w6.heap.size := by have := h2.size; omega
            have HB6 := hid (HB4.out.trans (h2.mono hw2))
            clear h1 h2 h3 hrow HWS HLN
            go_wp2
            go_roundw
            case rel => exact ⟨i + 1, k, (T ++ [32]) ++ bn u, by rfl, by go_num, by omega, by omega, hTn, HBL6.out, HT3.out, HON.out, hw6, HB6.out⟩
            case measure => simp [intOf]; omega
        · have HB4 := hid (HBX.out.trans (B4.mono HBX.out.size))
          have HF : Hid (WrtR (l.map Tb.tk) (.returned (.tuple #[.string ⟨#[]⟩, .int .i64 4]))) := .inr (.inl ⟨HOK.out, by
            rw [HT2.out, List.length_append, List.length_append]; omega, rfl⟩)
          clear hlong x0 x1 x2 x3 HWN B4 HT2
          go_wp2
          go_ret2
          exact ⟨HF.out, HB4.out⟩
      | false =>
        rw [hbl] at HBK
        have HT2 : Hid (Lx.wr 5 (l.map Tb.tk) = (T ++ tw ⟨k, bn x, 0, 0⟩) ++ Lx.wr k ((l.drop (i + 1)).map Tb.tk)) := by
          show _ = _
          rw [HTT.out, if_neg (by simp [hbl])]; simp
        have HBLX := HBLX0
        have HBX := HBX0
        have HRX := HRX0
        clear hbl HTT
        go_wp2_with fail
        refine (HBK.out _).mono ?_
        rintro e w3 ⟨rfl, hw3⟩
        obtain rfl := hw3.symm
        clear hW0 hc0
        have HWN := hid (written_any ⟨k, x, nn', aa⟩ hw (by simp only; omega) W0 (HG.out W0 HBX.out))
        have x0 : W0.cell? ⟨wr.heap.size, 0, none⟩ = some (.int .u8 (k : Int)) := cell_of_row _ _ _ _ _ _ HRX.out
        have x1 : W0.cell? ⟨wr.heap.size, 1, none⟩ = some (.string x) := cell_of_row _ _ _ _ _ _ HRX.out
        have x2 : W0.cell? ⟨wr.heap.size, 2, none⟩ = some (.int .i64 nn') := cell_of_row _ _ _ _ _ _ HRX.out
        have x3 : W0.cell? ⟨wr.heap.size, 3, none⟩ = some (.int .i64 aa) := cell_of_row _ _ _ _ _ _ HRX.out
        simp only at HWN
        clear hw
        go_wp2_with fail
        refine HWN.out.mono ?_
        rintro e w4 ⟨⟨u, hu, rfl⟩ | ⟨hlong, u, rfl⟩, B4⟩
        · have HB4 := hid (HBX.out.trans (B4.mono HBX.out.size))
          have HRX4 : Hid (w4.heap[wr.heap.size]? = some (Obj.cells (tcs ⟨k, x, nn', aa⟩) 40 (0, 0))) := (B4.block _ (Array.getElem?_eq_some_iff.1 HRX.out).1).trans HRX.out
          have HBL4 := hid (HBLX.out.below B4)
          have hw4 : w2.heap.size < w4.heap.size := by have := B4.size; omega
          have HLN := hid (bl_len w2.heap.size w2.heap.size _ w4 HBL4.out)
          have hul : u.size = (tw ⟨k, bn x, 0, 0⟩).length := by rw [← hu, bn_length]
          have HU := hid hu
          have hus : u.size ≤ 6000002 := by have := tw_bd k (bn x); rw [bn_length] at this; omega
          obtain ⟨N, hN⟩ : ∃ N, (T).length = N := ⟨_, rfl⟩
          rw [hN] at HLN
          have hNl : N ≤ 65537 := by rw [← hN]; first | (rw [List.length_append]; simp; omega) | omega
          by_cases hbig : 65536 < N + u.size
          · have HF : Hid (WrtR (l.map Tb.tk) (.returned (.tuple #[.string ⟨#[]⟩, .int .i64 4]))) := .inr (.inl ⟨HOK.out, by
              rw [HT2.out, List.length_append, List.length_append, hN, ← hul]; omega, rfl⟩)
            have hbigz : (65536 : Int) < (N : Int) + (u.size : Int) := by omega
            clear hN hul hu x0 x1 x2 x3 HWN B4 HT2 hbig
            go_wp2_with fail
            refine HLN.out.mono ?_
            rintro e w5 ⟨rfl, rfl⟩
            go_wp2
            go_ret2
            exact ⟨HF.out, HB4.out⟩
          · have hbigz : ¬ (65536 : Int) < (N : Int) + (u.size : Int) := by omega
            have HWS := hid (bl_str w2.heap.size w2.heap.size _ u w4 HBL4.out (by rw [hN]; omega) (by omega) (by omega))
            have hTn : (T ++ bn u).length ≤ 65536 := by rw [List.length_append, hN, bn_length]; omega
            have HT3 : Hid (Lx.wr 5 (l.map Tb.tk) = (T ++ bn u) ++ Lx.wr k ((l.drop (i + 1)).map Tb.tk)) := by
              show _ = _
              rw [HT2.out, hu, List.append_assoc]
            clear hN hul hu x0 x1 x2 x3 HWN B4 HT2 hbig HU
            go_wp2_with fail
            refine HLN.out.mono ?_
            rintro e w5 ⟨rfl, rfl⟩
            go_wp2_with fail
            refine HWS.out.mono ?_
            rintro e w6 ⟨⟨v, rfl⟩, h1, h2, h3⟩
            have hrow := ok_row h3 HRX4.out (by omega)
            have y0 : w6.cell? ⟨wr.heap.size, 0, none⟩ = some (.int .u8 (k : Int)) := cell_of_row _ _ _ _ _ _ hrow
            have HBL6 := hid h1
            have hw6 : w2.heap.size < w6.heap.size := by have := h2.size; omega
            have HB6 := hid (HB4.out.trans (h2.mono hw2))
            clear h1 h2 h3 hrow HWS HLN
            go_wp2
            go_roundw
            case rel => exact ⟨i + 1, k, T ++ bn u, by rfl, by go_num, by omega, by omega, hTn, HBL6.out, HT3.out, HON.out, hw6, HB6.out⟩
            case measure => simp [intOf]; omega
        · have HB4 := hid (HBX.out.trans (B4.mono HBX.out.size))
          have HF : Hid (WrtR (l.map Tb.tk) (.returned (.tuple #[.string ⟨#[]⟩, .int .i64 4]))) := .inr (.inl ⟨HOK.out, by
            rw [HT2.out, List.length_append, List.length_append]; omega, rfl⟩)
          clear hlong x0 x1 x2 x3 HWN B4 HT2
          go_wp2
          go_ret2
          exact ⟨HF.out, HB4.out⟩
    · have hie : l.drop i = [] := List.drop_eq_nil_of_le (by omega)
      have HFE : Hid (Lx.wr 5 (l.map Tb.tk) = T) := by
        have h := HT.out
        rw [hie] at h
        show _ = _
        rw [h]; simp [Lx.wr]
      have HSD := hid (bl_said w2.heap.size w2.heap.size T wr HBL.out (by omega))
      clear HT hie HBL HN HB2
      go_wp2_with fail
      refine HSD.out.mono ?_
      rintro e w6 ⟨⟨u, hu, rfl⟩, B⟩
      have HF : Hid (WrtR (l.map Tb.tk) (.returned (.tuple #[.string u, .int .i64 0]))) := .inr (.inr ⟨HOK.out, by rw [HFE.out]; exact hTl, u, by rw [HFE.out]; exact hu, rfl⟩)
      have HB6 := hid (HB.out.trans (B.mono hw2))
      clear hu B HSD
      go_wp2
      go_ret2
      exact ⟨HF.out, HB6.out⟩
end Go.Proofs.YtphkdagapoonjaaGreatDoor.Lx
namespace Go.Proofs.YtphkdagapoonjaaGreatDoor.Lx
open Go.RowKit
open Go.Proofs.YtphkdagapoonjaaGreatDoor.F (bn bn_length bn_append bn_inj bn_get byte_bd hid bn_extract isEmpty_false isEmpty_true str_eq same_eq)
open Go.Proofs.YtphkdagapoonjaaGreatDoor.U (nx enc encs scal val Bytes)
set_option linter.unusedVariables false

theorem tk_inj : ∀ {ts us : List Tb}, ts.map Tb.tk = us.map Tb.tk → (∀ t ∈ ts, 0 ≤ t.n ∧ 0 ≤ t.a) → (∀ t ∈ us, 0 ≤ t.n ∧ 0 ≤ t.a) → ts = us
  | [], [], _, _, _ => rfl
  | [], _ :: _, h, _, _ => by simp at h
  | _ :: _, [], h, _, _ => by simp at h
  | ⟨k, x, n, a⟩ :: ts, ⟨k', x', n', a'⟩ :: us, h, h1, h2 => by
    rw [List.map_cons, List.map_cons, List.cons.injEq] at h
    obtain ⟨e, e2⟩ := h
    have q1 := h1 _ (List.mem_cons_self ..)
    have q2 := h2 _ (List.mem_cons_self ..)
    unfold Tb.tk at e
    simp only [Tk.mk.injEq] at e q1 q2
    obtain ⟨e0, e1, e3, e4⟩ := e
    obtain rfl := bn_inj e1
    rw [tk_inj e2 (fun t ht => h1 t (List.mem_cons_of_mem _ ht)) (fun t ht => h2 t (List.mem_cons_of_mem _ ht)), e0, show n = n' by omega, show a = a' by omega]
/- The answers' texts. -/
def cA : ByteArray := ⟨#[97, 108, 108, 111, 119, 32, 104, 111, 115, 116, 32, 34, 98, 92, 117, 123, 102, 99, 125, 99, 104, 101, 114, 46, 100, 101, 34, 32, 35, 32, 120, 10, 10, 120, 13, 10]⟩
def cB : ByteArray := ⟨#[97, 32, 34, 98]⟩
def cC : ByteArray := ⟨#[97, 108, 108, 111, 119, 32, 104, 111, 115, 116, 32, 34, 98, 195, 188, 99, 104, 101, 114, 46, 100, 101, 34, 10, 120, 10]⟩
def tA : List Tb := [⟨1, ⟨#[97, 108, 108, 111, 119]⟩, 1, 0⟩, ⟨1, ⟨#[104, 111, 115, 116]⟩, 1, 6⟩, ⟨2, ⟨#[98, 195, 188, 99, 104, 101, 114, 46, 100, 101]⟩, 1, 11⟩, ⟨5, ⟨#[]⟩, 1, 31⟩, ⟨1, ⟨#[120]⟩, 3, 0⟩, ⟨5, ⟨#[]⟩, 3, 1⟩]
theorem lex_A : lex (bn cA) = (tA.map Tb.tk, 0, 0, 0) := by kernel_rfl
theorem lex_B : lex (bn cB) = ([], 151, 1, 2) := by kernel_rfl
theorem wr_A : wr 5 (tA.map Tb.tk) = bn cC := by kernel_rfl
theorem ok_A : ok 5 (tA.map Tb.tk) := by
  obtain ⟨r, e, _, h, _⟩ := lex_inv (s := bn cA) (U.bn_bytes cA) (by rw [lex_A])
  rw [lex_A] at e
  rw [(Prod.mk.inj e).1]
  exact h
theorem sml_A : Sml tA := by
  intro t ht
  unfold tA at ht
  simp only [List.mem_cons, List.not_mem_nil, or_false] at ht
  rcases ht with rfl | rfl | rfl | rfl | rfl | rfl <;> exact ⟨by decide, by decide⟩
/-- What Lex answers of the first text. -/
theorem ln_A {base : Nat} {e : Ending} {W : World} (h : LnR (lex (bn cA)) base e W) : ∃ a c, e = .returned (.tuple #[.slice a 6 c, .agg #[.int .i64 0, .int .i64 0, .int .i64 0]]) ∧ TokAt W (.slice a 6 c) tA := by
  rw [lex_A] at h
  obtain ⟨v, ts, hown, hts, hnn, rfl⟩ := h
  obtain rfl : ts = tA := tk_inj hts hnn (by
    intro t ht
    unfold tA at ht
    simp only [List.mem_cons, List.not_mem_nil, or_false] at ht
    rcases ht with rfl | rfl | rfl | rfl | rfl | rfl <;> exact ⟨by decide, by decide⟩)
  obtain ⟨a, c, rfl⟩ := hown.form
  exact ⟨a, c, rfl, hown.at⟩
theorem ln_B {base : Nat} {e : Ending} {W : World} (h : LnR (lex (bn cB)) base e W) : ∃ v, e = .returned (.tuple #[v, .agg #[.int .i64 151, .int .i64 1, .int .i64 2]]) := by
  rw [lex_B] at h
  obtain ⟨v, ts, hown, hts, hnn, rfl⟩ := h
  exact ⟨v, rfl⟩
theorem wn_A {e : Ending} (h : WrtR (tA.map Tb.tk) e) : e = .returned (.tuple #[.string cC, .int .i64 0]) := by
  rcases h with ⟨h, _⟩ | ⟨_, h, _⟩ | ⟨_, _, u, hu, rfl⟩
  · exact absurd ok_A h
  · rw [wr_A] at h
    exact absurd h (by rw [bn_length]; decide)
  · rw [wr_A] at hu
    rw [bn_inj hu]
theorem fields_flt : ((Tryz.prog.fieldsOf 26).toList.map fun f => (f.type, f.offset, decide (f.name = "_"))) = [(24, 0, false), (3, 1, false), (3, 2, false)] := by kernel_rfl
/-- Two faults held against each other. -/
theorem eql_flt (a b c a' b' c' : Int) (w : World) : (binOp .eql 26 (.agg #[.int .i64 a, .int .i64 b, .int .i64 c]) (.agg #[.int .i64 a', .int .i64 b', .int .i64 c'])).run Tryz.prog w = .ok (.bool ((a == a') && (b == b') && (c == c'))) w := by
  have key : (Op.equalIn 10000 26 (.agg #[.int .i64 a, .int .i64 b, .int .i64 c]) (.agg #[.int .i64 a', .int .i64 b', .int .i64 c'])).run Tryz.prog w = .ok ((a == a') && (b == b') && (c == c')) w := by
    rw [run_equalIn_struct w 9999 26 _ _ (by kernel_rfl) (by kernel_rfl)]
    have hf := fields_flt
    generalize (Tryz.prog.fieldsOf 26).toList = fs at hf ⊢
    match fs, hf with
    | [], hf => cases hf
    | [_], hf => simp at hf
    | [_, _], hf => simp at hf
    | _ :: _ :: _ :: _ :: _, hf => simp at hf
    | [f0, f1, f2], hf =>
      simp only [List.map_cons, List.map_nil, List.cons.injEq, Prod.mk.injEq, decide_eq_false_iff_not, and_true] at hf
      obtain ⟨⟨t0, o0, n0⟩, ⟨t1, o1, n1⟩, ⟨t2, o2, n2⟩⟩ := hf
      have ge : ∀ w, (isAgg 24).run Tryz.prog w = .ok false w := fun w => by kernel_rfl
      have gi : ∀ w, (isAgg 3).run Tryz.prog w = .ok false w := fun w => by kernel_rfl
      simp only [Op.eqFields, ne_eq, n0, n1, n2, not_false_eq_true, if_true, t0, t1, t2, o0, o1, o2, Sem.run_bind]
      rw [part_one _ ge _ 0 (.int .i64 a) rfl, Result.andThen_ok, part_one _ ge _ 0 (.int .i64 a') rfl, Result.andThen_ok, run_equalIn_int w 9998 24 .i64 .i64 _ _ Tryz.underlying24, Result.andThen_ok]
      cases hk : (a == a') with
      | false => simp
      | true =>
        simp only [Bool.not_true, Bool.false_eq_true, if_false, Bool.true_and, Sem.run_bind]
        rw [part_one _ gi _ 1 (.int .i64 b) rfl, Result.andThen_ok, part_one _ gi _ 1 (.int .i64 b') rfl, Result.andThen_ok, run_equalIn_int w 9998 3 .i64 .i64 _ _ Tryz.underlying3, Result.andThen_ok]
        cases hn : (b == b') with
        | false => simp
        | true =>
          simp only [Bool.not_true, Bool.false_eq_true, if_false, Bool.true_and, Sem.run_bind]
          rw [part_one _ gi _ 2 (.int .i64 c) rfl, Result.andThen_ok, part_one _ gi _ 2 (.int .i64 c') rfl, Result.andThen_ok, run_equalIn_int w 9998 3 .i64 .i64 _ _ Tryz.underlying3, Result.andThen_ok]
          cases (c == c') <;> simp
  rw [run_eql_struct, key]; rfl
end Go.Proofs.YtphkdagapoonjaaGreatDoor.Lx
namespace Go.Proofs.YtphkdagapoonjaaGreatDoor.Lx
open Go.RowKit
open Go.Proofs.YtphkdagapoonjaaGreatDoor.F (bn bn_length bn_append bn_inj bn_get byte_bd hid bn_extract isEmpty_false isEmpty_true str_eq same_eq)
open Go.Proofs.YtphkdagapoonjaaGreatDoor.U (nx enc encs scal val Bytes)
set_option linter.unusedVariables false

theorem TokAt.below {w W : World} {v : Value} {l : List Tb} (h : TokAt w v l) (hb : Below w.heap.size w W) : TokAt W v l := by
  obtain ⟨a, cap, e, h0, hc⟩ := h
  refine ⟨a, cap, e, h0, fun hl => ?_⟩
  obtain ⟨b, off, ea, hcell⟩ := hc hl
  refine ⟨b, off, ea, fun j c hj hc4 => ?_⟩
  have h1 := hcell j c hj hc4
  have hlen : (cells4 (l[j]?.getD z4)).length = 4 := rfl
  obtain ⟨x, hx⟩ : ∃ x, (cells4 (l[j]?.getD z4))[c]? = some x := ⟨_, List.getElem?_eq_getElem (by omega)⟩
  rw [hx] at h1 ⊢
  exact keeps hb h1
/-- What alive looks at, of the first answer. -/
theorem cells_A {w : World} {a : Option Addr} {c : Nat} (h : TokAt w (.slice a 6 c) tA) : ∃ b off, a = some ⟨b, off, none⟩ ∧
    (w.cell? ⟨b, off + 2 * 4, none⟩ = some (.int .u8 2) ∧ w.cell? ⟨b, off + 2 * 4 + 1, none⟩ = some (.string ⟨#[98, 195, 188, 99, 104, 101, 114, 46, 100, 101]⟩) ∧ w.cell? ⟨b, off + 2 * 4 + 2, none⟩ = some (.int .i64 1) ∧ w.cell? ⟨b, off + 2 * 4 + 3, none⟩ = some (.int .i64 11)) ∧
    (w.cell? ⟨b, off + 4 * 4, none⟩ = some (.int .u8 1) ∧ w.cell? ⟨b, off + 4 * 4 + 1, none⟩ = some (.string ⟨#[120]⟩) ∧ w.cell? ⟨b, off + 4 * 4 + 2, none⟩ = some (.int .i64 3) ∧ w.cell? ⟨b, off + 4 * 4 + 3, none⟩ = some (.int .i64 0)) ∧
    w.cell? ⟨b, off + 5 * 4 + 3, none⟩ = some (.int .i64 1) := by
  obtain ⟨b, off, rfl, h0, h1, h2, h3⟩ := h.cell (i := 2) (by decide)
  obtain ⟨b', off', e', h4, h5, h6, h7⟩ := h.cell (i := 4) (by decide)
  injection e' with e'; injection e' with e1 e2 _; subst e1; subst e2
  obtain ⟨b', off', e', h8, h9, ha, hb⟩ := h.cell (i := 5) (by decide)
  injection e' with e'; injection e' with e1 e2 _; subst e1; subst e2
  exact ⟨b, off, rfl, ⟨h0, h1, h2, h3⟩, ⟨h4, h5, h6, h7⟩, hb⟩
set_option maxRecDepth 100000 in
set_option maxHeartbeats 8000000 in
theorem alive_any (w : World) (G : Gl w) : Calls Tryz.prog 5 #[] w fun e w' => e = .returned (.bool true) ∧ Below w.heap.size w w' := by
  have HG := hid (fun W (h : Below w.heap.size w W) => G.below h)
  have H1 := hid (lex_any cA (by decide) w G)
  clear G
  unfold cA at H1
  go_enter Tryz.func5, Tryz.ntmps5
  go_wp2_with fail
  refine H1.out.mono ?_
  rintro e w1 ⟨hq, B1⟩
  clear H1
  obtain ⟨a, c, rfl, hat⟩ := ln_A hq
  clear hq
  have HT := hid hat
  have HB := hid B1
  clear hat B1
  have HB1 : Hid (Below w.heap.size w (w1.alloc (.cells #[.int .i64 0, .int .i64 0, .int .i64 0] 26))) := HB.out.alloc HB.out.size _
  have HA1 : Hid (Below w1.heap.size w1 (w1.alloc (.cells #[.int .i64 0, .int .i64 0, .int .i64 0] 26))) := (Below.refl _ _).alloc (Nat.le_refl _) _
  have HC0 : Hid ((w1.alloc (.cells #[.int .i64 0, .int .i64 0, .int .i64 0] 26)).cell? ⟨w1.heap.size, 0, none⟩ = some (.int .i64 0)) := World.cell?_alloc_new w1 _ _ 0
  obtain ⟨b, off, rfl, ⟨p0, p1, p2, p3⟩, ⟨p4, p5, p6, p7⟩, p8⟩ := cells_A HT.out
  have H2 := hid (lex_any cB (by decide) _ (HG.out _ HB1.out))
  unfold cB at H2
  go_wp2_with fail
  refine H2.out.mono ?_
  rintro e w2 ⟨hq, B2⟩
  clear H2
  obtain ⟨v2, rfl⟩ := ln_B hq
  clear hq
  have HB2 : Hid (Below w1.heap.size w1 w2) := HA1.out.trans (B2.mono HA1.out.size)
  have hc0 : w2.cell? ⟨w1.heap.size, 0, none⟩ = some (.int .i64 0) := keeps B2 HC0.out
  have HS2 : Hid (w1.heap.size ≤ w2.heap.size) := HB2.out.size
  clear B2 HC0 HA1 HB1
  have HB3 : Hid (Below w1.heap.size w1 (w2.alloc (.cells #[.int .i64 151, .int .i64 1, .int .i64 2] 26))) := HB2.out.alloc HB2.out.size _
  have HA3 : Hid (Below w2.heap.size w2 (w2.alloc (.cells #[.int .i64 151, .int .i64 1, .int .i64 2] 26))) := (Below.refl _ _).alloc (Nat.le_refl _) _
  have HC3 : Hid ((w2.alloc (.cells #[.int .i64 151, .int .i64 1, .int .i64 2] 26)).cell? ⟨w2.heap.size, 0, none⟩ = some (.int .i64 151)) := World.cell?_alloc_new w2 _ _ 0
  have HC4 : Hid ((w2.alloc (.cells #[.int .i64 151, .int .i64 1, .int .i64 2] 26)).cell? ⟨w2.heap.size, 1, none⟩ = some (.int .i64 1)) := World.cell?_alloc_new w2 _ _ 1
  have HC5 : Hid ((w2.alloc (.cells #[.int .i64 151, .int .i64 1, .int .i64 2] 26)).cell? ⟨w2.heap.size, 2, none⟩ = some (.int .i64 2)) := World.cell?_alloc_new w2 _ _ 2
  have H3 := hid (write_any _ 6 c tA (w2.alloc (.cells #[.int .i64 151, .int .i64 1, .int .i64 2] 26)) (HT.out.below HB3.out) (by decide) sml_A (HG.out _ (HB.out.trans (HB3.out.mono HB.out.size))))
  go_wp2_with fail
  refine H3.out.mono ?_
  rintro e w3 ⟨hq, B3⟩
  clear H3
  obtain rfl := wn_A hq
  unfold cC
  clear hq
  replace hc0 := keeps B3 (keeps HA3.out hc0)
  have q0 := keeps B3 HC3.out
  have q1 := keeps B3 HC4.out
  have q2 := keeps B3 HC5.out
  have HF : Hid (Below w.heap.size w w3) := HB.out.trans ((HB3.out.trans (B3.mono HB3.out.size)).mono HB.out.size)
  have HG1 : Hid (Below w1.heap.size w1 w3) := HB3.out.trans (B3.mono HB3.out.size)
  replace p0 := keeps HG1.out p0
  replace p1 := keeps HG1.out p1
  replace p2 := keeps HG1.out p2
  replace p3 := keeps HG1.out p3
  replace p4 := keeps HG1.out p4
  replace p5 := keeps HG1.out p5
  replace p6 := keeps HG1.out p6
  replace p7 := keeps HG1.out p7
  replace p8 := keeps HG1.out p8
  clear HC3 HC4 HC5 HA3 HB3 B3 HS2 HB2 HB HG1 HG HT
  have HQ1 : ∀ w, (binOp .eql 40 (.agg #[.int .u8 2, .string ⟨#[98, 195, 188, 99, 104, 101, 114, 46, 100, 101]⟩, .int .i64 1, .int .i64 11]) (.agg #[.int .u8 2, .string ⟨#[98, 195, 188, 99, 104, 101, 114, 46, 100, 101]⟩, .int .i64 1, .int .i64 11])).run Tryz.prog w = .ok (.bool true) w := fun w => (eql_tok ⟨2, ⟨#[98, 195, 188, 99, 104, 101, 114, 46, 100, 101]⟩, 1, 11⟩ ⟨2, ⟨#[98, 195, 188, 99, 104, 101, 114, 46, 100, 101]⟩, 1, 11⟩ w).trans (by rw [eqt_iff.2 rfl])
  have HQ2 : ∀ w, (binOp .eql 40 (.agg #[.int .u8 1, .string ⟨#[120]⟩, .int .i64 3, .int .i64 0]) (.agg #[.int .u8 1, .string ⟨#[120]⟩, .int .i64 3, .int .i64 0])).run Tryz.prog w = .ok (.bool true) w := fun w => (eql_tok ⟨1, ⟨#[120]⟩, 3, 0⟩ ⟨1, ⟨#[120]⟩, 3, 0⟩ w).trans (by rw [eqt_iff.2 rfl])
  have HQ3 : ∀ w, (binOp .eql 26 (.agg #[.int .i64 151, .int .i64 1, .int .i64 2]) (.agg #[.int .i64 151, .int .i64 1, .int .i64 2])).run Tryz.prog w = .ok (.bool true) w := fun w => eql_flt 151 1 2 151 1 2 w
  go_wp2
  go_ret
  exact ⟨rfl, HF.out⟩
end Go.Proofs.YtphkdagapoonjaaGreatDoor.Lx
namespace Go.Proofs.YtphkdagapoonjaaGreatDoor.Lx
open Go.RowKit
open Go.Proofs.YtphkdagapoonjaaGreatDoor.F (bn bn_length bn_append bn_inj bn_get byte_bd hid bn_extract isEmpty_false isEmpty_true str_eq same_eq)
open Go.Proofs.YtphkdagapoonjaaGreatDoor.U (nx enc encs scal val Bytes)
set_option linter.unusedVariables false

/-- What is not too long. -/
def Brf (l : List Tb) : Prop := l.length ≤ 2048 ∧ ∀ t ∈ l, t.x.size ≤ 8192
set_option maxRecDepth 100000 in
set_option maxHeartbeats 4000000 in
theorem long_any (a : Option Addr) (n c : Nat) (l : List Tb) (w : World) (hat : TokAt w (.slice a n c) l) (hn : n ≤ maxLen) (hs : ∀ t ∈ l, t.x.size ≤ 140737488351232) :
    Calls Tryz.prog 9 #[.slice a n c] w fun e w' => (e = .returned (.bool true) ∨ (e = .returned (.bool false) ∧ Brf l)) ∧ Below w.heap.size w w' := by
  obtain rfl := hat.len
  have hn2 : l.length ≤ 9223372036854775807 := hn
  have HA := hid hat
  have HS := hid hs
  clear hat hs
  go_enter Tryz.func9, Tryz.ntmps9
  go_wp2
  go_loopw [3, 4] (fun v3 v4 wr => ∃ (i s : Nat), v3 = .int .i64 (s : Int) ∧ v4 = .int .i64 (i : Int) ∧ i ≤ l.length ∧ 4 * i ≤ s ∧ s ≤ 140737488363520 ∧ Hid (∀ j, j < i → (l[j]?.getD z4).x.size ≤ s) ∧ Hid (Below w.heap.size w wr)) (fun _ v4 _ => l.length - (intOf v4).toNat)
  case atStart => exact ⟨0, 0, rfl, rfl, by omega, by omega, by omega, fun j h => absurd h (by omega), Below.refl _ _⟩
  case round =>
    obtain ⟨i, s, rfl, rfl, hi, h4, hsb, HX, HB⟩ := hrel
    by_cases hlt : i < l.length
    · have hltz : (i : Int) < (l.length : Int) := by omega
      by_cases hs8 : s ≤ 8192
      · have hsz : (s : Int) ≤ 8192 := by omega
        obtain ⟨b, off, rfl, e0, e1, e2, e3⟩ := HA.out.cell hlt
        have f1 := keeps HB.out e1
        clear e0 e1 e2 e3
        obtain ⟨x, hxe⟩ : ∃ x, (l[i]?.getD z4).x = x := ⟨_, rfl⟩
        rw [hxe] at f1
        have hx : x.size ≤ 140737488351232 := by
          have hm : l[i]?.getD z4 ∈ l := by rw [List.getElem?_eq_getElem hlt]; exact List.getElem_mem hlt
          rw [← hxe]
          exact HS.out _ hm
        have HN : Hid (∀ j, j < i + 1 → (l[j]?.getD z4).x.size ≤ s + 4 + x.size) := by
          intro j hj
          rcases Nat.lt_or_ge j i with h | h
          · exact Nat.le_trans (HX.out j h) (by omega)
          · obtain rfl : j = i := by omega
            rw [hxe]; omega
        clear HX hxe
        go_wp2
        go_roundw
        case rel => exact ⟨i + 1, s + 4 + x.size, by go_num, by go_num, by omega, by omega, by omega, HN.out, HB.out⟩
        case measure => simp [intOf]; omega
      · have hsz : ¬ (s : Int) ≤ 8192 := by omega
        have hsg : (8192 : Int) < (s : Int) := by omega
        clear HX
        go_wp2
        go_ret
        exact ⟨.inl rfl, HB.out⟩
    · have hltz : ¬ (i : Int) < (l.length : Int) := by omega
      by_cases hs8 : s ≤ 8192
      · have hsg : ¬ (8192 : Int) < (s : Int) := by omega
        have HF : Hid (Brf l) := by
          refine ⟨by omega, fun t ht => ?_⟩
          obtain ⟨j, hj, rfl⟩ := List.mem_iff_getElem.1 ht
          have := HX.out j (by omega)
          rw [List.getElem?_eq_getElem hj] at this
          exact Nat.le_trans this hs8
        clear HX
        go_wp2
        go_ret
        exact ⟨.inr ⟨rfl, HF.out⟩, HB.out⟩
      · have hsg : (8192 : Int) < (s : Int) := by omega
        clear HX
        go_wp2
        go_ret
        exact ⟨.inl rfl, HB.out⟩
end Go.Proofs.YtphkdagapoonjaaGreatDoor.Lx
