/- strings.IndexAny of the signs that end a word; lex.wordAt. (Stage 15.) -/
import Derived.Test.YtphkdagapoonjaaDoorLPD
import Derived.Test.YtphkdagapoonjaaDoorLHA
namespace Go.Proofs.YtphkdagapoonjaaDoor.Lx
open Go.RowKit
open Go.Proofs.YtphkdagapoonjaaDoor.F (bn bn_length bn_append bn_inj bn_get byte_bd hid bn_extract isEmpty_false isEmpty_true str_eq same_eq)
open Go.Proofs.YtphkdagapoonjaaDoor.U (nx enc encs scal val Bytes)
set_option linter.unusedVariables false

/-- A rune of a text: one byte below 128, or one to four that are not. -/
theorem rn_step (s : ByteArray) (p : Nat) (hp : p < s.size) :
    ((Utf8.decode s p).1 < 128 ∧ (Utf8.decode s p).2 = 1 ∧ (bn s)[p]?.getD 0 = ((Utf8.decode s p).1 : Int)) ∨
    (128 ≤ (Utf8.decode s p).1 ∧ scal ((Utf8.decode s p).1 : Int) = true ∧ 1 ≤ (Utf8.decode s p).2 ∧ p + (Utf8.decode s p).2 ≤ s.size ∧ ∀ c ∈ ((bn s).drop p).take (Utf8.decode s p).2, 128 ≤ c) := by
  have hd := dec_nx s p hp
  have hl : ((bn s).drop p).length = s.size - p := by rw [List.length_drop, bn_length]
  have hne : (bn s).drop p ≠ [] := by intro e; rw [e] at hl; simp at hl; omega
  have hB : Bytes ((bn s).drop p) := fun b hb => U.bn_bytes s b (List.mem_of_mem_drop hb)
  have hat : (bn s)[p]?.getD 0 = ((bn s).drop p)[0]?.getD 0 := by rw [List.getElem?_drop]; rfl
  have hn := U.nx_n _ hne
  rw [hl] at hn
  have hinv := U.nx_inv _ hne hB
  rw [hat]
  obtain ⟨R, hR⟩ : ∃ R, (Utf8.decode s p).1 = R := ⟨_, rfl⟩
  obtain ⟨K, hK⟩ : ∃ K, (Utf8.decode s p).2 = K := ⟨_, rfl⟩
  rw [hR, hK] at hd ⊢
  rcases hinv with ⟨a, t, e, z0, z1, q⟩ | ⟨a, b, t, e, z0, z1, z2, z3, q⟩ | ⟨a, b, c, t, e, z0, z1, z2, z3, z4, z5, q⟩ | ⟨a, b, c, d, t, e, z0, z1, z2, z3, z4, z5, z6, z7, q⟩ | ⟨n, z0, z1, q⟩
  · rw [q] at hd
    rw [e]
    simp only [if_true] at hd
    exact .inl ⟨by omega, hd.2, by simp; omega⟩
  · rw [q] at hd hn
    rw [e]
    simp only [if_true] at hd hn
    obtain ⟨d1, d2⟩ := hd
    subst d2
    refine .inr ⟨by omega, by rw [scal_iff]; omega, by omega, by omega, fun c hc => ?_⟩
    simp at hc; omega
  · rw [q] at hd hn
    rw [e]
    simp only [if_true] at hd hn
    obtain ⟨d1, d2⟩ := hd
    subst d2
    have y0 := U.low_ge a
    have y1 : U.lowOf a = 160 ∨ a ≠ 224 := by unfold U.lowOf; (repeat' split) <;> omega
    have y2 : U.highOf a = 159 ∨ a ≠ 237 := by unfold U.highOf; (repeat' split) <;> omega
    have y3 := U.high_le a
    refine .inr ⟨by omega, by rw [scal_iff]; omega, by omega, by omega, fun c hc => ?_⟩
    simp at hc; omega
  · rw [q] at hd hn
    rw [e]
    simp only [if_true] at hd hn
    obtain ⟨d1, d2⟩ := hd
    subst d2
    have y0 := U.low_ge a
    have y1 : U.lowOf a = 144 ∨ a ≠ 240 := by unfold U.lowOf; (repeat' split) <;> omega
    have y2 : U.highOf a = 143 ∨ a ≠ 244 := by unfold U.highOf; (repeat' split) <;> omega
    have y3 := U.high_le a
    refine .inr ⟨by omega, by rw [scal_iff]; omega, by omega, by omega, fun c hc => ?_⟩
    simp at hc; omega
  · have hw : (nx ((bn s).drop p)).2.2 = false := by rw [q]
    rw [hw] at hd
    simp only [Bool.false_eq_true, if_false] at hd
    obtain ⟨d1, d2⟩ := hd
    subst d2
    refine .inr ⟨by omega, by rw [d1]; decide, by omega, by omega, fun c hc => ?_⟩
    rcases hq : (bn s).drop p with _ | ⟨a, t⟩
    · exact absurd hq hne
    · rw [hq] at hc q
      have : c = a := by simpa using hc
      subst this
      apply Classical.byContradiction
      intro h
      rw [nx, if_pos (by omega)] at q
      simp at q
/-- Where a word ends, as strings.IndexAny tells it. -/
def wix (l : List Int) : Int := if (l.takeWhile nen).length < l.length then ((l.takeWhile nen).length : Int) else -1
abbrev blk : ByteArray := ⟨#[32, 9, 44, 33, 34, 35]⟩
theorem blk_fin : ∀ n : Fin 256, ([32, 9, 44, 33, 34, 35] : List UInt8).contains (UInt8.ofNat n.val) = en (n.val : Int) := by decide +kernel
theorem blk_en (b : UInt8) : ([32, 9, 44, 33, 34, 35] : List UInt8).contains b = en (b.toNat : Int) := by
  have h := blk_fin ⟨b.toNat, b.toNat_lt⟩
  simp only [UInt8.ofNat_toNat] at h
  exact h
theorem idx_words : ∀ l : List UInt8, Lib.indexAny l [32, 9, 44, 33, 34, 35] = wix (nn l)
  | [] => rfl
  | b :: l => by
    have ih := idx_words l
    rw [Lib.indexAny, blk_en, ih]
    unfold wix
    show _ = if (((b.toNat : Int) :: nn l).takeWhile nen).length < ((b.toNat : Int) :: nn l).length then ((((b.toNat : Int) :: nn l).takeWhile nen).length : Int) else -1
    have hle : ((nn l).takeWhile nen).length ≤ (nn l).length := (List.takeWhile_sublist _).length_le
    cases h : en (b.toNat : Int) with
    | true =>
      have hn : nen (b.toNat : Int) = false := by unfold nen; rw [h]; rfl
      simp only [List.takeWhile_cons, hn]
      simp
    | false =>
      have hn : nen (b.toNat : Int) = true := by unfold nen; rw [h]; rfl
      simp only [List.takeWhile_cons, hn, if_true, List.length_cons]
      by_cases hh : ((nn l).takeWhile nen).length < (nn l).length
      · simp only [if_pos hh, if_pos (Nat.succ_lt_succ hh)]
        rw [if_neg (by simp), if_neg (by simp)]
        omega
      · simp only [if_neg hh, if_neg (show ¬ ((nn l).takeWhile nen).length + 1 < (nn l).length + 1 by omega)]
        simp
theorem asc_blk : E.Asc blk := by unfold E.Asc; decide
/-- IndexRune at these signs. -/
theorem ir_any (r : Int) (hr : scal r = true) (w : World) : Calls Tryd.prog 54 #[.string blk, .int .i32 r] w fun e w' => (∃ i : Int, decide (0 ≤ i) = (decide (r < 128) && en r) ∧ e = .returned (.int .i64 i)) ∧ Below w.heap.size w w' := by
  have hb := E.scal_bd hr
  by_cases h1 : r < 128
  · refine (E.rune_low blk r hb.1 h1 w).mono ?_
    rintro e w' ⟨rfl, rfl⟩
    refine ⟨⟨_, ?_, rfl⟩, Below.refl _ _⟩
    rw [E.first_has blk r hb.1 h1, decide_eq_true h1, Bool.true_and]
    show List.contains [32, 9, 44, 33, 34, 35] r = en r
    unfold en
    rw [Bool.eq_iff_iff]
    simp
  · have h2 : (decide (r < 128) && en r) = false := by rw [decide_eq_false h1]; rfl
    rw [h2]
    by_cases h3 : r = 65533
    · subst h3
      refine (E.rune_sign blk asc_blk (by decide) w).mono ?_
      rintro e w' ⟨rfl, B⟩
      exact ⟨⟨-1, by decide, rfl⟩, B⟩
    · refine (E.rune_high blk asc_blk (by decide) r hr (by omega) h3 w).mono ?_
      rintro e w' ⟨rfl, B⟩
      exact ⟨⟨-1, by decide, rfl⟩, B⟩
/-- No sign of these stands ahead of p. -/
def Ahd (l : List Int) (p : Nat) : Prop := ∀ c ∈ l.take p, nen c = true
theorem wix_hit {l : List Int} {p : Nat} (h : Ahd l p) (hp : p < l.length) (he : en (l[p]?.getD 0) = true) : wix l = p := by
  have e : l = l.take p ++ (l[p]?.getD 0) :: l.drop (p + 1) := by
    rw [List.getElem?_eq_getElem hp, Option.getD_some, ← List.drop_eq_getElem_cons hp, List.take_append_drop]
  have ht : l.takeWhile nen = l.take p := by
    conv => lhs; rw [e]
    have := (takeW_app (p := nen) (g := l.take p) ((l[p]?.getD 0) :: l.drop (p + 1)) h).1
    rw [this, List.takeWhile_cons, if_neg (by unfold nen; simp [he]), List.append_nil]
  unfold wix
  rw [ht, List.length_take, if_pos (by omega)]
  omega
theorem wix_end {l : List Int} (h : Ahd l l.length) : wix l = -1 := by
  unfold Ahd at h
  rw [List.take_length] at h
  have := (takeW_app (p := nen) (g := l) [] h).1
  rw [List.append_nil] at this
  unfold wix
  rw [this]
  simp
theorem Ahd.more {l : List Int} {p k : Nat} (h : Ahd l p) (h2 : ∀ c ∈ (l.drop p).take k, nen c = true) : Ahd l (p + k) := by
  intro c hc
  rw [List.take_add] at hc
  exact (List.mem_append.1 hc).elim (h c) (h2 c)
set_option maxRecDepth 100000 in
set_option maxHeartbeats 4000000 in
theorem ia_short (s : ByteArray) (h8 : s.size ≤ 8) (w : World) : Calls Tryd.prog 42 #[.string s, .string blk] w fun e w' => e = .returned (.int .i64 (wix (bn s))) ∧ Below w.heap.size w w' := by
  have HU : Hid (∀ W, Calls Tryd.prog 55 #[.int .i64 s.size] W fun e w' => e = .returned (.bool false) ∧ w' = W) := fun W => by
    refine Calls.mono (show Calls Tryd.prog 55 #[.int .i64 s.size] W _ from Any.strings_shouldUseASCIISet { Tryd.l153 with } s.size W) ?_
    rintro e w' ⟨rfl, rfl⟩
    rw [decide_eq_false (by omega)]
    exact ⟨rfl, rfl⟩
  go_enter Tryd.func42, Tryd.ntmps42
  go_wp2_with (go_at_call 55; refine (HU.out _).mono ?_; rintro e w2 ⟨rfl, hw2⟩; obtain rfl := hw2.symm)
  go_loopg [9, 10] s.size (fun gf _ _ wx => ∃ p : Nat, wx.heap[w.heap.size]? = some (.stringIter s p) ∧ Hid (Below w.heap.size w wx) ∧ Hid (Ahd (bn s) p) ∧ p ≤ s.size ∧ s.size ≤ p + gf)
  case atStart => exact ⟨0, World.iter_heap w s 0, (Below.refl _ w).alloc (Nat.le_refl _) _, fun c hc => (by simp at hc), by omega, by omega⟩
  case round =>
    obtain ⟨p, hit, HB, HA, hp, hfu⟩ := hrel
    by_cases hps : p < s.size
    · obtain ⟨g', rfl⟩ : ∃ g', gk = g' + 1 := ⟨gk - 1, by omega⟩
      have hnx : ∀ ty, (Instr.next (.pointer (some ⟨w.heap.size, 0, none⟩)) true ty).run Tryd.prog wr = _ := fun ty => Lib.run_next_any_at wr w.heap.size s p ty hit hps
      have hst := rn_step s p hps
      have hr32 := Lib.rune_le s p
      obtain ⟨R, hR⟩ : ∃ R, (Utf8.decode s p).1 = R := ⟨_, rfl⟩
      obtain ⟨K, hK⟩ : ∃ K, (Utf8.decode s p).2 = K := ⟨_, rfl⟩
      rw [hR, hK] at hnx hst
      rw [hR] at hr32
      clear hR hK
      have hit2 := Lib.iterAt_heap wr w.heap.size s p (p + K) hit
      have HB2 := hid (Lib.below_iterAt HB.out (k := w.heap.size) (Nat.le_refl _) s (p + K))
      obtain ⟨W, hWd⟩ : ∃ W, wr.iterAt w.heap.size s (p + K) = W := ⟨_, rfl⟩
      rw [hWd] at hnx hit2 HB2
      clear HB hWd hit
      have HSC : Hid (scal (R : Int) = true) := by
        show _ = _
        rcases hst with ⟨h1, _⟩ | ⟨_, h2, _⟩
        · rw [scal_iff]; omega
        · exact h2
      have HI := hid (ir_any (R : Int) HSC.out W)
      have HGO : Hid (∀ (W' : World), Below W.heap.size W W' → W'.heap[w.heap.size]? = some (.stringIter s (p + K)) ∧ Below w.heap.size w W') := fun W' B => ⟨(B.block _ (Array.getElem?_eq_some_iff.1 hit2).1).trans hit2, HB2.out.trans (B.mono HB2.out.size)⟩
      by_cases hen : (R : Int) < 128 ∧ en (R : Int) = true
      · have HF : Hid (wix (bn s) = p) := by
          show _ = _
          rcases hst with ⟨h1, h2, h3⟩ | ⟨h1, _⟩
          · exact wix_hit HA.out (by rw [bn_length]; exact hps) (by rw [h3]; exact hen.2)
          · omega
        rw [decide_eq_true hen.1, hen.2] at HI
        clear hst HSC HA hen
        go_wp2_with fail
        refine HI.out.mono ?_
        rintro e w2 ⟨⟨i, hi, rfl⟩, B⟩
        have hi0 : 0 ≤ i := of_decide_eq_true hi
        have HB3 := hid (HGO.out w2 B).2
        clear hi B HI
        go_wp2
        go_ret
        exact ⟨by rw [HF.out] <;> rfl, HB3.out⟩
      · have HA2 : Hid (Ahd (bn s) (p + K)) := by
          refine HA.out.more ?_
          rcases hst with ⟨h1, h2, h3⟩ | ⟨_, _, _, _, h5⟩
          · rw [h2]
            intro c hc
            have hd : (bn s).drop p = (R : Int) :: (bn s).drop (p + 1) := by
              have hp' : p < (bn s).length := by rw [bn_length]; exact hps
              rw [List.drop_eq_getElem_cons hp', ← h3, List.getElem?_eq_getElem hp']; rfl
            rw [hd] at hc
            have : c = R := by simpa using hc
            subst this
            unfold nen
            cases he : en (R : Int) with
            | false => rfl
            | true => exact absurd ⟨by omega, he⟩ hen
          · exact fun c hc => nen_high (h5 c hc)
        have hfl : (decide ((R : Int) < 128) && en (R : Int)) = false := by
          cases he : en (R : Int) with
          | false => simp
          | true => rw [decide_eq_false (fun h => hen ⟨h, he⟩)]; rfl
        rw [hfl] at HI
        have hpk : p + K ≤ s.size ∧ 1 ≤ K := by
          rcases hst with ⟨_, h2, _⟩ | ⟨_, _, h3, h4, _⟩ <;> omega
        obtain ⟨hpk, hK1⟩ := hpk
        clear hst HSC HA hen hfl
        go_wp2_with fail
        refine HI.out.mono ?_
        rintro e w2 ⟨⟨i, hi, rfl⟩, B⟩
        have hi0 : ¬ 0 ≤ i := of_decide_eq_false hi
        have hit3 := (HGO.out w2 B).1
        have HB3 := hid (HGO.out w2 B).2
        clear hi B HI
        go_wp2
        go_roundg g'
        case measure => omega
        case rel => exact ⟨p + K, hit3, HB3.out, HA2.out, hpk, by omega⟩
    · have hnx : ∀ ty, (Instr.next (.pointer (some ⟨w.heap.size, 0, none⟩)) true ty).run Tryd.prog wr = _ := fun ty => Lib.run_next_end_at wr w.heap.size s p ty hit hps
      have HF : Hid (wix (bn s) = -1) := by
        show _ = _
        have : p = (bn s).length := by rw [bn_length]; omega
        exact wix_end (this ▸ HA.out)
      go_wp2
      go_ret
      exact ⟨by rw [HF.out] <;> rfl, HB.out⟩
theorem set_info : (Tryd.prog.info? (Tryd.l153_ren.t 116)).map (fun i => (i.zero, i.size)) = some (some (.agg (Array.replicate 256 (.bool false))), 256) := by kernel_rfl
theorem ia_any (s : ByteArray) (hs : s.size ≤ 1000000000) (w : World) : Calls Tryd.prog 42 #[.string s, .string blk] w fun e w' => e = .returned (.int .i64 (wix (bn s))) ∧ Below w.heap.size w w' := by
  by_cases h8 : s.size ≤ 8
  · exact ia_short s h8 w
  · have hasc : ∀ (j : Nat) b, blk.data.toList[j]? = some b → b.toNat < 128 := fun j b h => asc_blk b (List.mem_of_getElem? h)
    refine Calls.mono (show Calls Tryd.prog 42 #[.string s, .string blk] w _ from Any.strings_IndexAny_long Tryd.l153 (zero_of_info set_info).1 (zero_of_info set_info).2 s blk w (by decide) (by omega) (by omega) (by decide) hasc) ?_
    rintro e w' ⟨rfl, rfl⟩
    refine ⟨?_, ((Below.refl _ _).alloc (Nat.le_refl _) _).alloc (by simp) _⟩
    show Ending.returned (.int .i64 (Lib.indexAny s.data.toList [32, 9, 44, 33, 34, 35])) = _
    rw [idx_words]; rfl
set_option maxRecDepth 100000 in
set_option maxHeartbeats 4000000 in
theorem word_any (s : ByteArray) (hs : s.size ≤ 1000000000) (w : World) : Calls Tryd.prog 31 #[.string s] w fun e w' => e = .returned (.string (s.extract 0 ((bn s).takeWhile nen).length)) ∧ Below w.heap.size w w' := by
  have HI := hid (ia_any s hs w)
  have hle : ((bn s).takeWhile nen).length ≤ s.size := by rw [← bn_length]; exact (List.takeWhile_sublist _).length_le
  unfold wix at HI
  rw [bn_length] at HI
  obtain ⟨k, hk⟩ : ∃ k, ((bn s).takeWhile nen).length = k := ⟨_, rfl⟩
  rw [hk] at HI hle ⊢
  clear hk
  by_cases h : k < s.size
  · rw [if_pos h] at HI
    go_enter Tryd.func31, Tryd.ntmps31
    go_wp2_with fail
    refine HI.out.mono ?_
    rintro e w2 ⟨rfl, B⟩
    go_wp2
    go_ret
    exact ⟨rfl, B⟩
  · rw [if_neg h] at HI
    have hx : s.extract 0 k = s := bn_inj (by
      unfold bn
      have : k = s.size := by omega
      subst this
      simp)
    rw [hx]
    go_enter Tryd.func31, Tryd.ntmps31
    go_wp2_with fail
    refine HI.out.mono ?_
    rintro e w2 ⟨rfl, B⟩
    go_wp2
    go_ret
    exact ⟨rfl, B⟩
end Go.Proofs.YtphkdagapoonjaaDoor.Lx
