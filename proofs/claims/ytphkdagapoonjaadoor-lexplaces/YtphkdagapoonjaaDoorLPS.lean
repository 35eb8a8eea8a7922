/- lex.areLines. (Stage 15.) -/
import Derived.Test.YtphkdagapoonjaaDoorLPR
import Derived.Test.YtphkdagapoonjaaDoorLRT
import Derived.Deep.MidRow
namespace Go.Proofs.YtphkdagapoonjaaDoor.Lx
open Go.RowKit
open Go.Proofs.YtphkdagapoonjaaDoor.F (bn bn_length bn_append bn_inj bn_get byte_bd hid bn_extract isEmpty_false isEmpty_true str_eq same_eq)
open Go.Proofs.YtphkdagapoonjaaDoor.U (nx enc encs scal val Bytes)
set_option linter.unusedVariables false

/-- Tokens of a size that is bounded. -/
def Sml (l : List Tb) : Prop := ∀ t ∈ l, t.k ≤ 255 ∧ t.x.size ≤ 1000000
theorem ok_cons (last : Nat) (t : Tk) (r : List Tk) : ok last (t :: r) ↔ (tok t.k t.x ∧ ¬ (t.k = 5 ∧ last = 5)) ∧ ok t.k r := by
  unfold tok
  rw [ok]
  constructor
  · rintro ⟨h, h2⟩
    refine ⟨⟨?_, ?_⟩, h2⟩
    · rcases h with h | h | ⟨h | h | h, h3⟩
      · exact .inl h
      · exact .inr (.inl h)
      · exact .inr (.inr ⟨.inl h, h3⟩)
      · exact .inr (.inr ⟨.inr (.inl h), h3⟩)
      · exact .inr (.inr ⟨.inr (.inr h.1), h3⟩)
    · rintro ⟨h5, hl⟩
      rcases h with h | h | ⟨h | h | h, h3⟩
      · omega
      · omega
      · omega
      · omega
      · exact h.2 hl
  · rintro ⟨⟨h, hn⟩, h2⟩
    refine ⟨?_, h2⟩
    rcases h with h | h | ⟨h | h | h, h3⟩
    · exact .inl h
    · exact .inr (.inl h)
    · exact .inr (.inr ⟨.inl h, h3⟩)
    · exact .inr (.inr ⟨.inr (.inl h), h3⟩)
    · exact .inr (.inr ⟨.inr (.inr ⟨h, fun hl => hn ⟨h, hl⟩⟩), h3⟩)
set_option maxRecDepth 100000 in
set_option maxHeartbeats 4000000 in
theorem arl_any (a : Option Addr) (n c : Nat) (l : List Tb) (w : World) (hat : TokAt w (.slice a n c) l) (hn : n ≤ 1000000) (hs : Sml l) (G : Gl w) :
    Calls Tryd.prog 10 #[.slice a n c] w fun e w' => ((ok 5 (l.map Tb.tk) ∧ e = .returned (.bool true)) ∨ (¬ ok 5 (l.map Tb.tk) ∧ e = .returned (.bool false))) ∧ Below w.heap.size w w' := by
  obtain rfl := hat.len
  have HA := hid hat
  have HS := hid hs
  have HG := hid (fun W (h : Below w.heap.size w W) => G.below h)
  clear hat hs G
  go_enter Tryd.func10, Tryd.ntmps10
  go_wp2
  go_loopw [3, 8] (fun v3 v8 wr => ∃ (i last : Nat), v3 = .int .u8 (last : Int) ∧ v8 = .int .i64 (i : Int) ∧ i ≤ l.length ∧ last ≤ 255 ∧ Hid (ok 5 (l.map Tb.tk) ↔ ok last ((l.drop i).map Tb.tk)) ∧ Hid (Below w.heap.size w wr)) (fun _ v8 _ => l.length - (intOf v8).toNat)
  case atStart => exact ⟨0, 5, rfl, rfl, by omega, by omega, Iff.rfl, Below.refl _ _⟩
  case round =>
    obtain ⟨i, last, rfl, rfl, hi, hl5, HO, HB⟩ := hrel
    by_cases hlt : i < l.length
    · obtain ⟨b, off, rfl, e0, e1, e2, e3⟩ := HA.out.cell hlt
      obtain ⟨⟨k, x, nn', aa⟩, ht⟩ : ∃ t, l[i]?.getD z4 = t := ⟨_, rfl⟩
      rw [ht] at e0 e1 e2 e3
      have f0 := keeps HB.out e0
      have f1 := keeps HB.out e1
      have f2 := keeps HB.out e2
      have f3 := keeps HB.out e3
      simp only at f0 f1 f2 f3
      clear e0 e1 e2 e3
      obtain ⟨hk, hx⟩ : k ≤ 255 ∧ x.size ≤ 1000000 := by
        have hm : l[i]?.getD z4 ∈ l := by rw [List.getElem?_eq_getElem hlt]; exact List.getElem_mem hlt
        rw [ht] at hm
        exact HS.out _ hm
      have hdr : (l.drop i).map Tb.tk = ⟨k, bn x, nn'.toNat, aa.toNat⟩ :: (l.drop (i + 1)).map Tb.tk := by
        rw [List.drop_eq_getElem_cons hlt, List.map_cons]
        rw [List.getElem?_eq_getElem hlt] at ht
        have ht' : l[i] = ⟨k, x, nn', aa⟩ := ht
        rw [ht']; rfl
      have HO2 : Hid (ok 5 (l.map Tb.tk) ↔ (tok k (bn x) ∧ ¬ (k = 5 ∧ last = 5)) ∧ ok k ((l.drop (i + 1)).map Tb.tk)) := by
        show _ ↔ _
        rw [HO.out, hdr, ok_cons]
      obtain ⟨W0, hW0⟩ : ∃ W0, wr.alloc (.cells (tcs ⟨k, x, nn', aa⟩) 35) = W0 := ⟨_, rfl⟩
      have HB0 : Hid (Below w.heap.size w W0) := by show Below _ _ _; rw [← hW0]; exact HB.out.alloc HB.out.size _
      have hb0 : W0.heap[wr.heap.size]? = some (Obj.cells (tcs ⟨k, x, nn', aa⟩) 35 (0, 0)) := by rw [← hW0]; exact heap_alloc_new wr _
      have HTK := hid (istok_any ⟨k, x, nn', aa⟩ hk (by simp only; omega) W0 (HG.out W0 HB0.out))
      have hc0 : W0.cell? ⟨wr.heap.size, 0, none⟩ = some (.int .u8 (k : Int)) := cell_of_row _ _ _ _ _ _ hb0
      have hc1 : W0.cell? ⟨wr.heap.size, 1, none⟩ = some (.string x) := cell_of_row _ _ _ _ _ _ hb0
      have hc2 : W0.cell? ⟨wr.heap.size, 2, none⟩ = some (.int .i64 nn') := cell_of_row _ _ _ _ _ _ hb0
      have hc3 : W0.cell? ⟨wr.heap.size, 3, none⟩ = some (.int .i64 aa) := cell_of_row _ _ _ _ _ _ hb0
      simp only at HTK
      clear HO hdr ht hx hb0
      have hmain : Hid (∀ (e : Ending) (w2 : World), TkR k (bn x) e → Below W0.heap.size W0 w2 → w2.cell? ⟨wr.heap.size, 0, none⟩ = some (.int .u8 (k : Int)) ∧ Below w.heap.size w w2) := fun e w2 _ B => ⟨keeps B hc0, HB0.out.trans (B.mono HB0.out.size)⟩
      go_wp2_with fail
      refine HTK.out.mono ?_
      rintro e w2 ⟨hq, B⟩
      clear hc0 hc1 hc2 hc3
      obtain ⟨c2, hB2⟩ := hmain.out e w2 hq B
      have HB2 := hid hB2
      clear hmain hB2 B HTK hW0 HB0
      rcases hq with ⟨hw, rfl⟩ | ⟨hw, rfl⟩
      · by_cases h5 : k = 5
        · subst h5
          by_cases hl : last = 5
          · subst hl
            have HF : Hid (¬ ok 5 (l.map Tb.tk)) := fun h => (HO2.out.1 h).1.2 ⟨rfl, rfl⟩
            clear HO2 hw
            go_wp2
            go_ret
            exact ⟨.inr ⟨HF.out, rfl⟩, HB2.out⟩
          · have hlb : ((last : Int) == 5) = false := by simp; omega
            have HN : Hid (ok 5 (l.map Tb.tk) ↔ ok 5 ((l.drop (i + 1)).map Tb.tk)) := HO2.out.trans ⟨fun h => h.2, fun h => ⟨⟨hw, fun h => hl h.2⟩, h⟩⟩
            clear HO2 hw hl
            go_wp2
            go_roundw
            case rel => exact ⟨i + 1, 5, by rfl, by go_num, by omega, by omega, HN.out, HB2.out⟩
            case measure => simp [intOf]; omega
        · have h5b : ((k : Int) == 5) = false := by simp; omega
          have HN : Hid (ok 5 (l.map Tb.tk) ↔ ok k ((l.drop (i + 1)).map Tb.tk)) := HO2.out.trans ⟨fun h => h.2, fun h => ⟨⟨hw, fun h => h5 h.1⟩, h⟩⟩
          clear HO2 hw h5
          go_wp2
          go_roundw
          case rel => exact ⟨i + 1, k, by rfl, by go_num, by omega, by omega, HN.out, HB2.out⟩
          case measure => simp [intOf]; omega
      · have HF : Hid (¬ ok 5 (l.map Tb.tk)) := fun h => hw (HO2.out.1 h).1.1
        clear HO2 hw
        go_wp2
        go_ret
        exact ⟨.inr ⟨HF.out, rfl⟩, HB2.out⟩
    · have hie : l.drop i = [] := List.drop_eq_nil_of_le (by omega)
      have HN : Hid (ok 5 (l.map Tb.tk) ↔ last = 5) := by
        have h := HO.out
        rw [hie] at h
        exact h
      clear HO hie
      by_cases hl : last = 5
      · subst hl
        have HF := hid (HN.out.2 rfl)
        clear HN
        go_wp2
        go_ret
        exact ⟨.inl ⟨HF.out, rfl⟩, HB.out⟩
      · have hlb : ((last : Int) == 5) = false := by simp; omega
        have HF := hid (fun h => hl (HN.out.1 h))
        clear HN hl
        go_wp2
        go_ret
        exact ⟨.inr ⟨HF.out, rfl⟩, HB.out⟩
end Go.Proofs.YtphkdagapoonjaaDoor.Lx
