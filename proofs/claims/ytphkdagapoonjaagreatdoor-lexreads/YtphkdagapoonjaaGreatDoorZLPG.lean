/- lex.backslashed; lex.isControl, isWhole, lookAtBytes. -/
import Derived.Test.YtphkdagapoonjaaGreatDoorZLPA
import Derived.Test.YtphkdagapoonjaaGreatDoorZLSC
import Derived.Deep.LoopGhost
namespace Go.Proofs.YtphkdagapoonjaaGreatDoor.Lx
open Go.RowKit
open Go.Proofs.YtphkdagapoonjaaGreatDoor.F (bn bn_length bn_append bn_inj bn_get byte_bd hid bn_extract isEmpty_false isEmpty_true str_eq same_eq)
open Go.Proofs.YtphkdagapoonjaaGreatDoor.U (nx enc encs scal val Bytes)
set_option linter.unusedVariables false

theorem tw_cut {p : Int → Bool} : ∀ {g r : List Int} {c : Int}, (∀ x ∈ g, p x = true) → p c = false → (g ++ c :: r).takeWhile p = g
  | [], r, c, _, h => by rw [List.nil_append, List.takeWhile_cons, if_neg (by simp [h])]
  | x :: g, r, c, hg, h => by
    rw [List.cons_append, List.takeWhile_cons, if_pos (hg x (by simp)), tw_cut (fun y hy => hg y (by simp [hy])) h]
theorem tw_form {p : Int → Bool} : ∀ (q : List Int), q.takeWhile p = q ∨ ∃ c r, q = q.takeWhile p ++ c :: r ∧ p c = false
  | [] => .inl rfl
  | x :: q => by
    cases hx : p x with
    | false => exact .inr ⟨x, q, by rw [List.takeWhile_cons, if_neg (by simp [hx])]; rfl, hx⟩
    | true =>
      rw [List.takeWhile_cons, if_pos hx]
      rcases tw_form q with h | ⟨c, r, h, hc⟩
      · exact .inl (by rw [h])
      · exact .inr ⟨c, r, by rw [List.cons_append, ← h], hc⟩
theorem tw_mem {p : Int → Bool} {q : List Int} : ∀ x ∈ q.takeWhile p, p x = true := by
  induction q with
  | nil => intro x hx; simp at hx
  | cons a q ih =>
    intro x hx
    rw [List.takeWhile_cons] at hx
    split at hx
    · rw [List.mem_cons] at hx
      rcases hx with rfl | hx
      · assumption
      · exact ih x hx
    · simp at hx
theorem not125 {x : Int} (h : isd x = true) : is 125 x = true := by
  unfold is
  rw [decide_eq_true_eq]
  rintro rfl
  revert h; decide
theorem es_cut {l : List Int} (h1 : l.getD 1 0 = 117) (h2 : l.getD 2 0 = 123) (g : List Int) (hg : g = (l.drop 3).takeWhile (is 125)) :
    ((125 : Int) ∈ l.drop 3 ∧ okD g → es l = (enc (hv g), g.length + 4)) ∧ (¬ ((125 : Int) ∈ l.drop 3 ∧ okD g) → es l = ([], 0)) := by
  have hb : ¬ (l.getD 1 0 = 34 ∨ l.getD 1 0 = 92) := by omega
  have e : es l = if l.getD 1 0 = 117 ∧ l.getD 2 0 = 123 ∧ ds l ≠ [] ∧ l.getD (3 + (ds l).length) 0 = 125 ∧ scal (hv (ds l)) = true then (enc (hv (ds l)), (ds l).length + 4) else ([], 0) := by
    unfold es; rw [if_neg hb]
  have at3 : ∀ k, l.getD (3 + k) 0 = (l.drop 3).getD k 0 := fun k => by simp [List.getD, List.getElem?_drop]
  obtain ⟨q, hq⟩ : ∃ q, l.drop 3 = q := ⟨_, rfl⟩
  have hds : ds l = (q.take 6).takeWhile isd := by unfold ds; rw [hq]
  simp only [at3] at e
  rw [hq] at hg e ⊢
  clear at3 hb
  constructor
  · rintro ⟨hm, ho⟩
    rcases tw_form (p := is 125) q with h | ⟨c, r, h, hc⟩
    · rw [← h] at hm
      have := tw_mem _ hm
      simp [is] at this
    · have hc2 : c = 125 := by unfold is at hc; simpa using hc
      subst hc2
      rw [← hg] at h
      have hd : ds l = g := by
        rw [hds, h]
        have hl := ho.2.2.1
        by_cases h6 : g.length = 6
        · rw [← h6, List.take_left]
          exact (tw_all ho.2.1).1
        · rw [List.take_append, List.take_of_length_le (by omega)]
          obtain ⟨m, hm⟩ : ∃ m, 6 - g.length = m + 1 := ⟨6 - g.length - 1, by omega⟩
          rw [hm, List.take_succ_cons]
          exact tw_cut ho.2.1 (by decide)
      rw [e, hd, if_pos]
      refine ⟨h1, h2, ho.1, ?_, ho.2.2.2⟩
      rw [h]
      simp
  · intro hn
    rw [e, if_neg]
    rintro ⟨-, -, hne, h125, hsc⟩
    apply hn
    rw [hds] at hne h125 hsc
    obtain ⟨D, hD⟩ : ∃ D, (q.take 6).takeWhile isd = D := ⟨_, rfl⟩
    rw [hD] at hne h125 hsc
    have hDa : AllD D := fun c hc => by rw [← hD] at hc; exact tw_mem c hc
    have hDl : D.length ≤ 6 := by
      have h1 : D.length ≤ (q.take 6).length := by rw [← hD]; exact (List.takeWhile_sublist _).length_le
      rw [List.length_take] at h1; omega
    have hpre : D <+: q := by
      rw [← hD]
      exact (List.takeWhile_prefix _).trans (List.take_prefix _ _)
    obtain ⟨r, hr⟩ := hpre
    rw [← hr] at h125
    rw [List.getD_eq_getElem?_getD, List.getElem?_append_right (Nat.le_refl _), Nat.sub_self] at h125
    rcases r with _ | ⟨c, r⟩
    · simp at h125
    have hc : c = 125 := by simpa using h125
    subst hc
    have hgd : g = D := by
      rw [hg, ← hr]
      exact tw_cut (fun x hx => not125 (hDa x hx)) (by decide)
    rw [hgd]
    exact ⟨by rw [← hr]; simp, hne, hDa, hDl, hsc⟩
theorem es_no {l : List Int} (h0 : ¬ (l.getD 1 0 = 34 ∨ l.getD 1 0 = 92)) (h : ¬ (l.getD 1 0 = 117 ∧ l.getD 2 0 = 123)) : es l = ([], 0) := by
  unfold es
  rw [if_neg h0, if_neg (fun x => h ⟨x.1, x.2.1⟩)]
theorem es_yes {l : List Int} (h0 : l.getD 1 0 = 34 ∨ l.getD 1 0 = 92) : es l = ([l.getD 1 0], 2) := by
  unfold es
  rw [if_pos h0]
theorem pre_nn : ∀ (p l : List UInt8), p.isPrefixOf l = (nn p).isPrefixOf (nn l)
  | [], _ => rfl
  | _ :: _, [] => rfl
  | a :: p, b :: l => by
    show (a == b && p.isPrefixOf l) = (((a.toNat : Int) == (b.toNat : Int)) && (nn p).isPrefixOf (nn l))
    rw [pre_nn p l]
    congr 1
    rw [Bool.eq_iff_iff]
    simp only [beq_iff_eq]
    exact ⟨fun h => by rw [h], fun h => UInt8.toNat_inj.1 (by omega)⟩
theorem getD_cons (a : Int) (l : List Int) (k : Nat) : (a :: l).getD (k + 1) 0 = l.getD k 0 := by simp [List.getD]
/-- Is it that what l begins with, behind a backslash? -/
theorem pre_two {l : List Int} (h : l.getD 0 0 = 92) (hl : l ≠ []) (c : Int) (hc : c ≠ 0) : List.isPrefixOf [92, c] l = decide (l.getD 1 0 = c) := by
  rcases l with _ | ⟨a, _ | ⟨b, l⟩⟩
  · exact absurd rfl hl
  · simp [List.isPrefixOf]; intro _; omega
  · have : a = 92 := by simpa using h
    subst this
    rw [Bool.eq_iff_iff]
    simp [List.isPrefixOf]
    exact eq_comm
theorem pre_three {l : List Int} (h : l.getD 0 0 = 92) (hl : l ≠ []) : List.isPrefixOf [92, 117, 123] l = decide (l.getD 1 0 = 117 ∧ l.getD 2 0 = 123) := by
  rcases l with _ | ⟨a, _ | ⟨b, _ | ⟨c, l⟩⟩⟩
  · exact absurd rfl hl
  · simp [List.isPrefixOf]
  · simp [List.isPrefixOf]
  · have : a = 92 := by simpa using h
    subst this
    rw [Bool.eq_iff_iff]
    simp [List.isPrefixOf]
    omega
def BsR (l : List Int) (e : Ending) : Prop :=
  ((es l).2 = 0 ∧ e = .returned (.tuple #[.int .i32 0, .int .i64 0])) ∨ ∃ (r : Int) (k : Nat), scal r = true ∧ es l = (enc r, k) ∧ k ≠ 0 ∧ e = .returned (.tuple #[.int .i32 r, .int .i64 k])
theorem hasp_any (s p : ByteArray) (w : World) : Calls Tryz.prog 69 #[.string s, .string p] w fun e w' => e = .returned (.bool ((bn p).isPrefixOf (bn s))) ∧ w' = w := by
  refine Calls.mono (show Calls Tryz.prog 69 #[.string s, .string p] w _ from Any.strings_HasPrefix Tryz.l99 s p w) ?_
  rintro e w' ⟨rfl, rfl⟩
  refine ⟨?_, rfl⟩
  show Ending.returned (.bool (List.isPrefixOf _ _)) = _
  rw [pre_nn]; rfl
theorem cutp_any (s p : ByteArray) (w : World) : Calls Tryz.prog 70 #[.string s, .string p] w fun e w' => (∃ t, bn t = (if (bn p).isPrefixOf (bn s) = true then (bn s).drop p.size else bn s) ∧ e = .returned (.tuple #[.string t, .bool ((bn p).isPrefixOf (bn s))])) ∧ w' = w := by
  refine Calls.mono (show Calls Tryz.prog 70 #[.string s, .string p] w _ from Any.strings_CutPrefix Tryz.l103 s p w) ?_
  rintro e w' ⟨rfl, rfl⟩
  have hh : Lib.hasPrefix s.data.toList p.data.toList = (bn p).isPrefixOf (bn s) := by show List.isPrefixOf _ _ = _; rw [pre_nn]; rfl
  refine ⟨⟨_, ?_, by rw [hh]⟩, rfl⟩
  rw [bn_arr]
  unfold Lib.trimPrefix
  rw [hh]
  have hps : p.data.toList.length = p.size := by rw [Array.length_toList]; rfl
  split
  · rw [nn_drop, hps]; rfl
  · rfl
theorem cut_any (s : ByteArray) (c : UInt8) (hs : s.size ≤ 1000000000) (w : World) (G : Gl w) : Calls Tryz.prog 33 #[.string s, .string ⟨#[c]⟩] w fun e w' => (∃ a b, bn a = (bn s).takeWhile (is c.toNat) ∧ bn b = ((bn s).dropWhile (is c.toNat)).drop 1 ∧ e = .returned (.tuple #[.string a, .string b, .bool (decide ((c.toNat : Int) ∈ bn s))])) ∧ Below w.heap.size w w' := by
  obtain ⟨m, hm⟩ := G.maxl
  refine Calls.mono (show Calls Tryz.prog 33 #[.string s, .string ⟨#[c]⟩] w _ from Any.strings_Cut Tryz.l145 s ⟨#[c]⟩ m w (by omega) hm) ?_
  rintro e w' ⟨rfl, n, rfl⟩
  have h := cut_one s.data.toList c
  refine ⟨⟨⟨(Lib.cut s.data.toList [c]).1.toArray⟩, ⟨(Lib.cut s.data.toList [c]).2.1.toArray⟩, ?_, ?_, by rw [bn_nn, ← h.2.2]⟩, below_drewNv (Below.refl _ w) n⟩
  · rw [bn_arr]; exact h.1
  · rw [bn_arr]; exact h.2.1
set_option maxRecDepth 100000 in
set_option maxHeartbeats 4000000 in
theorem bs_any (s : ByteArray) (h0 : 0 < s.size) (hs : s.size ≤ 1000000) (h92 : (bn s).getD 0 0 = 92) (w : World) (G : Gl w) : Calls Tryz.prog 52 #[.string s] w fun e W' => BsR (bn s) e ∧ Below w.heap.size w W' := by
  have hl := bn_length s
  have hne : bn s ≠ [] := fun e => by rw [e] at hl; simp at hl; omega
  have HP1 := hid (fun W => hasp_any s ⟨#[92, 34]⟩ W)
  have HP2 := hid (fun W => hasp_any s ⟨#[92, 92]⟩ W)
  have HP3 := hid (fun W => cutp_any s ⟨#[92, 117, 123]⟩ W)
  rw [show bn ⟨#[92, 34]⟩ = [92, 34] from rfl, pre_two h92 hne 34 (by decide)] at HP1
  rw [show bn ⟨#[92, 92]⟩ = [92, 92] from rfl, pre_two h92 hne 92 (by decide)] at HP2
  rw [show bn ⟨#[92, 117, 123]⟩ = [92, 117, 123] from rfl, show (⟨#[92, 117, 123]⟩ : ByteArray).size = 3 from rfl, pre_three h92 hne] at HP3
  have HG := hid (fun W (h : Below w.heap.size w W) => G.below h)
  have HL := hid hl
  by_cases h34 : (bn s).getD 1 0 = 34
  · have hs1 : 1 < s.size := by
      rw [← hl]
      apply Classical.byContradiction; intro h
      rw [List.getD_eq_getElem?_getD, List.getElem?_eq_none (by omega)] at h34
      simp at h34
    have hx : ((s[1]'hs1).toNat : Int) = 34 := by rw [← bn_get s 1 hs1]; rw [List.getD_eq_getElem?_getD] at h34; exact h34
    have HE : Hid (es (bn s) = (enc 34, 2)) := by show _ = _; rw [es_yes (.inl h34), h34]; rfl
    have hw : IntKind.i32.wrap 34 = 34 := by decide
    rw [decide_eq_true h34] at HP1
    clear h34 h92 hne hl G HP2 HP3
    go_enter Tryz.func52, Tryz.ntmps52
    go_wp2_with (go_at_call 69; refine (HP1.out _).mono ?_; rintro e w2 ⟨rfl, hw2⟩; obtain rfl := hw2.symm)
    go_ret2
    exact ⟨.inr ⟨34, 2, by decide, HE.out, by decide, by first | rfl | rw [hx] <;> rfl⟩, Below.refl _ _⟩
  · rw [decide_eq_false h34] at HP1
    by_cases h9 : (bn s).getD 1 0 = 92
    · have hs1 : 1 < s.size := by
        rw [← hl]
        apply Classical.byContradiction; intro h
        rw [List.getD_eq_getElem?_getD, List.getElem?_eq_none (by omega)] at h9
        simp at h9
      have hx : ((s[1]'hs1).toNat : Int) = 92 := by rw [← bn_get s 1 hs1]; rw [List.getD_eq_getElem?_getD] at h9; exact h9
      have HE : Hid (es (bn s) = (enc 92, 2)) := by show _ = _; rw [es_yes (.inr h9), h9]; rfl
      have hw : IntKind.i32.wrap 92 = 92 := by decide
      rw [decide_eq_true h9] at HP2
      clear h34 h92 hne hl G HP3 h9
      go_enter Tryz.func52, Tryz.ntmps52
      go_wp2_with fail
      refine (HP1.out _).mono ?_
      rintro e w2 ⟨rfl, hw2⟩
      obtain rfl := hw2.symm
      go_wp2_with fail
      refine (HP2.out _).mono ?_
      rintro e w2 ⟨rfl, hw2⟩
      obtain rfl := hw2.symm
      go_wp2
      go_ret2
      exact ⟨.inr ⟨92, 2, by decide, HE.out, by decide, by first | rfl | rw [hx] <;> rfl⟩, Below.refl _ _⟩
    · rw [decide_eq_false h9] at HP2
      have hno : ¬ ((bn s).getD 1 0 = 34 ∨ (bn s).getD 1 0 = 92) := by omega
      by_cases h3 : (bn s).getD 1 0 = 117 ∧ (bn s).getD 2 0 = 123
      · rw [decide_eq_true h3] at HP3
        have HE := hid (es_cut h3.1 h3.2 _ rfl)
        clear h34 h92 hne hl h9 h3 hno
        go_enter Tryz.func52, Tryz.ntmps52
        go_wp2_with fail
        refine (HP1.out _).mono ?_
        rintro e w2 ⟨rfl, hw2⟩
        obtain rfl := hw2.symm
        go_wp2_with fail
        refine (HP2.out _).mono ?_
        rintro e w2 ⟨rfl, hw2⟩
        obtain rfl := hw2.symm
        go_wp2_with fail
        refine (HP3.out _).mono ?_
        rintro e w2 ⟨⟨t, ht, rfl⟩, hw2⟩
        obtain rfl := hw2.symm
        rw [if_pos trivial] at ht
        have hts : t.size ≤ s.size := by rw [← bn_length, ht, List.length_drop, HL.out]; omega
        have HCU := hid (cut_any t 125 (by omega) w (HG.out w (Below.refl _ _)))
        rw [ht, show (((125 : UInt8).toNat : Nat) : Int) = 125 from rfl] at HCU
        clear ht
        go_wp2_with fail
        refine HCU.out.mono ?_
        rintro e w3 ⟨⟨a, b, ha, hb, rfl⟩, B⟩
        rw [← ha] at HE
        have hal : a.size ≤ 1000000 := by
          have h1 : (bn a).length ≤ ((bn s).drop 3).length := by rw [ha]; exact (List.takeWhile_sublist _).length_le
          rw [bn_length, List.length_drop, HL.out] at h1
          omega
        have HA := hid (bn_length a)
        have HSC := hid (scalar_any a hal w3 (HG.out w3 B))
        have HB := hid B
        clear ha hb HCU B
        by_cases hm : (125 : Int) ∈ (bn s).drop 3
        · rw [decide_eq_true hm]
          go_wp2_with fail
          refine HSC.out.mono ?_
          rintro e w4 ⟨⟨ho, rfl⟩ | ⟨ho, rfl⟩, B4⟩
          · have HE2 := hid (HE.out.1 ⟨hm, ho⟩)
            have HO := hid ho
            have HB4 := hid (HB.out.trans (B4.mono HB.out.size))
            clear HE hm ho B4
            go_wp2
            go_ret2
            refine ⟨.inr ⟨hv (bn a), a.size + 4, HO.out.2.2.2, by rw [HE2.out, HA.out], by omega, ?_⟩, HB4.out⟩
            first
              | (rw [show ((a.size + 4 : Nat) : Int) = 3 + (a.size : Int) + 1 by omega]; rfl)
              | (simp; omega)
          · have HE2 := hid (HE.out.2 (fun h => ho h.2))
            have HB4 := hid (HB.out.trans (B4.mono HB.out.size))
            clear HE hm ho B4
            go_wp2
            go_ret2
            exact ⟨.inl ⟨by rw [HE2.out], rfl⟩, HB4.out⟩
        · rw [decide_eq_false hm]
          have HE2 := hid (HE.out.2 (fun h => hm h.1))
          clear HE hm
          go_wp2
          go_ret2
          exact ⟨.inl ⟨by rw [HE2.out], rfl⟩, HB.out⟩
      · rw [decide_eq_false h3] at HP3
        have HE := hid (es_no hno h3)
        clear h34 h92 hne hl h9 h3 hno
        go_enter Tryz.func52, Tryz.ntmps52
        go_wp2_with fail
        refine (HP1.out _).mono ?_
        rintro e w2 ⟨rfl, hw2⟩
        obtain rfl := hw2.symm
        go_wp2_with fail
        refine (HP2.out _).mono ?_
        rintro e w2 ⟨rfl, hw2⟩
        obtain rfl := hw2.symm
        go_wp2_with fail
        refine (HP3.out _).mono ?_
        rintro e w2 ⟨⟨t, ht, rfl⟩, hw2⟩
        obtain rfl := hw2.symm
        rw [if_neg (by simp)] at ht
        have hts : t.size ≤ s.size := by rw [← bn_length, ht, HL.out]; omega
        have HCU := hid (cut_any t 125 (by omega) w (HG.out w (Below.refl _ _)))
        clear ht
        go_wp2_with fail
        refine HCU.out.mono ?_
        rintro e w3 ⟨⟨a, b, ha, hb, rfl⟩, B⟩
        clear ha hb HCU
        go_wp2
        go_ret2
        exact ⟨.inl ⟨by rw [HE.out], rfl⟩, B⟩
end Go.Proofs.YtphkdagapoonjaaGreatDoor.Lx
namespace Go.Proofs.YtphkdagapoonjaaGreatDoor.Lx
open Go.RowKit
open Go.Proofs.YtphkdagapoonjaaGreatDoor.F (bn bn_length bn_append bn_inj bn_get byte_bd hid bn_extract isEmpty_false isEmpty_true str_eq same_eq)
open Go.Proofs.YtphkdagapoonjaaGreatDoor.U (nx enc encs scal val Bytes)
set_option linter.unusedVariables false

theorem valid_any (s : ByteArray) (hs : s.size ≤ 1000000000) (w : World) (G : Gl w) : Calls Tryz.prog 27 #[.string s] w fun e w' => e = .returned (.bool (val (bn s))) ∧ Below w.heap.size w w' := by
  refine Calls.mono (show Calls Tryz.prog 27 #[.string s] w _ from Any.utf8_ValidString Tryz.l196 s w (by omega) G.tabs) ?_
  rintro e w' ⟨rfl, h⟩
  refine ⟨?_, h⟩
  show Ending.returned (.bool (Lib.validGoD _ _)) = _
  rw [val_D _ _ (Nat.le_refl _)]
  rfl
set_option maxRecDepth 100000 in
set_option maxHeartbeats 1000000 in
theorem ctl_any (r : Int) (w : World) : Calls Tryz.prog 29 #[.int .i32 r] w fun e w' => e = .returned (.bool (decide (r < 32 ∨ r = 127))) ∧ w' = w := by
  by_cases h1 : r < 32
  · have e : decide (r < 32 ∨ r = 127) = true := by simp [h1]
    rw [e]
    go_enter Tryz.func29, Tryz.ntmps29
    go_wp2
    go_ret
    exact ⟨rfl, rfl⟩
  · by_cases h2 : r = 127
    · subst h2
      go_enter Tryz.func29, Tryz.ntmps29
      go_wp2
      go_ret
      exact ⟨rfl, rfl⟩
    · have e : decide (r < 32 ∨ r = 127) = false := by simp [h2]; omega
      have h3 : (r == 127) = false := by simpa using h2
      rw [e]
      clear h2 e
      go_enter Tryz.func29, Tryz.ntmps29
      go_wp2
      go_ret
      exact ⟨rfl, rfl⟩
set_option maxRecDepth 100000 in
set_option maxHeartbeats 1000000 in
theorem whole_any (s : ByteArray) (h0 : 0 < s.size) (w : World) (G : Gl w) : Calls Tryz.prog 35 #[.string s] w fun e w' => e = .returned (.bool (decide (1 < (Utf8.decode s 0).2))) ∧ Below w.heap.size w w' := by
  have HD : Hid (Calls Tryz.prog 51 #[.string s] w fun e w' => e = .returned (.tuple #[.int .i32 (Utf8.decode s 0).1, .int .i64 (Utf8.decode s 0).2]) ∧ Below w.heap.size w w') := by
    refine Calls.mono (show Calls Tryz.prog 51 #[.string s] w _ from Any.utf8_DecodeRuneInString Tryz.l197 s w G.tabs) ?_
    rintro e w' ⟨rfl, h⟩
    refine ⟨?_, h⟩
    unfold Lib.decodeGo
    rw [if_neg (by omega)]
  obtain ⟨R, hR⟩ : ∃ R, (Utf8.decode s 0).1 = R := ⟨_, rfl⟩
  obtain ⟨K, hK⟩ : ∃ K, (Utf8.decode s 0).2 = K := ⟨_, rfl⟩
  rw [hR, hK] at HD
  rw [hK]
  have HK : decide (1 < K) = decide ((1 : Int) < (K : Int)) := by rw [Bool.eq_iff_iff]; simp only [decide_eq_true_eq]; omega
  rw [HK]
  clear hR hK G h0 HK
  go_enter Tryz.func35, Tryz.ntmps35
  go_wp2_with fail
  refine HD.out.mono ?_
  rintro e w2 ⟨rfl, B⟩
  go_wp2
  go_ret
  exact ⟨rfl, B⟩

/-- The value of a panic. -/
def faultV (e l a : Int) : List PanicEntry := [{ v := .iface 41 (.agg #[.int .i64 e, .int .i64 l, .int .i64 a]), recovered := false }]
def LookR (l : List Int) (n : Int) (e : Ending) : Prop :=
  match bd l with
  | some k => e = .panicked (faultV 152 n k)
  | none => match pb l with
    | some k => e = .panicked (faultV 150 n k)
    | none => e = .returned (.tuple #[])
/-- The first control so far. -/
def fo : Option Nat → Int
  | some k => k
  | none => -1
def ct (c : Int) : Bool := decide (c < 32 ∧ c ≠ 9 ∨ c = 127)
theorem pb_ct (l : List Int) : pb l = l.findIdx? ct := rfl
theorem pb_app (a b : List Int) : pb (a ++ b) = (pb a).or ((pb b).map (· + a.length)) := by
  rw [pb_ct, pb_ct, pb_ct, List.findIdx?_append]
theorem pb_none {l : List Int} (h : ∀ c ∈ l, ct c = false) : pb l = none := by
  rw [pb_ct, List.findIdx?_eq_none_iff]
  exact fun x hx => by simpa using h x hx
theorem pb_one {c : Int} (h : ct c = true) : pb [c] = some 0 := by rw [pb_ct]; simp [List.findIdx?_cons, h]
/-- What is kept when a line is looked through up to the byte p. -/
structure Lk (l : List Int) (p : Nat) (f : Int) : Prop where
  le : p ≤ l.length
  bad : bdF (l.length - p) (l.drop p) p = bd l
  ctl : f = fo (pb (l.take p))
theorem bdF_at {l : List Int} {i : Nat} (hi : i < l.length) : bdF (l.length - i) (l.drop i) i = if (nx (l.drop i)).2.2 = true then bdF (l.length - i - 1) (l.drop (i + (nx (l.drop i)).2.1)) (i + (nx (l.drop i)).2.1) else some i := by
  obtain ⟨m, hm⟩ : ∃ m, l.length - i = m + 1 := ⟨l.length - i - 1, by omega⟩
  rw [hm, bdF, if_neg (by rw [List.drop_eq_nil_iff]; omega), List.drop_drop]
  rfl
theorem bdF_more : ∀ (f g : Nat) (l : List Int) (k : Nat), l.length ≤ f → l.length ≤ g → bdF f l k = bdF g l k
  | 0, g, l, k, h1, h2 => by
    have : l = [] := List.length_eq_zero_iff.1 (by omega)
    subst this
    cases g <;> simp [bdF]
  | f + 1, 0, l, k, h1, h2 => by
    have : l = [] := List.length_eq_zero_iff.1 (by omega)
    subst this
    simp [bdF]
  | f + 1, g + 1, l, k, h1, h2 => by
    rw [bdF, bdF]
    by_cases hl : l = []
    · rw [if_pos hl, if_pos hl]
    rw [if_neg hl, if_neg hl]
    have hn := U.nx_n l hl
    rw [bdF_more f g _ _ (by rw [List.length_drop]; omega) (by rw [List.length_drop]; omega)]
theorem sub_aux {L p K : Nat} (h : 1 ≤ K) : L - (p + K) ≤ L - p - 1 := by omega
theorem le_aux {K S p : Nat} (h : K ≤ S - p) (hp : p < S) : p + K ≤ S := by omega
/-- One step of it. -/
theorem Lk.step {s : ByteArray} {p : Nat} {f : Int} (h : Lk (bn s) p f) (hp : p < s.size) :
    (bd (bn s) = some p ∧ (Utf8.decode s p).1 = 65533 ∧ (Utf8.decode s p).2 = 1) ∨
    (¬ ((Utf8.decode s p).1 = 65533 ∧ (Utf8.decode s p).2 = 1) ∧ 1 ≤ (Utf8.decode s p).2 ∧ p + (Utf8.decode s p).2 ≤ s.size ∧
      Lk (bn s) (p + (Utf8.decode s p).2) (if f < 0 ∧ ((Utf8.decode s p).1 : Int) ≠ 9 ∧ (((Utf8.decode s p).1 : Int) < 32 ∨ ((Utf8.decode s p).1 : Int) = 127) then p else f)) := by
  obtain ⟨h1, h2, h3⟩ := h
  have hd := dec_nx s p hp
  have hl : ((bn s).drop p).length = s.size - p := by rw [List.length_drop, bn_length]
  have hne : (bn s).drop p ≠ [] := by intro e; rw [e] at hl; simp at hl; omega
  have hB : Bytes ((bn s).drop p) := fun b hb => U.bn_bytes s b (List.mem_of_mem_drop hb)
  have hat := bdF_at (l := bn s) (i := p) (by rw [bn_length]; exact hp)
  rw [h2] at hat
  by_cases hw : (nx ((bn s).drop p)).2.2 = true
  · rw [if_pos hw] at hd hat
    rw [if_pos hw] at hd
    have hsg := nx_sign hB hne hw
    have hn := U.nx_n _ hne
    rw [hl] at hn
    have hinv := U.nx_inv _ hne hB
    obtain ⟨R, hR⟩ : ∃ R, (Utf8.decode s p).1 = R := ⟨_, rfl⟩
    obtain ⟨K, hK⟩ : ∃ K, (Utf8.decode s p).2 = K := ⟨_, rfl⟩
    rw [hR, hK] at hd ⊢
    rw [← hd.1, ← hd.2] at hsg
    rw [← hd.2] at hn hat
    refine .inr ⟨by rintro ⟨a, b⟩; exact hsg ⟨by omega, b⟩, hn.1, le_aux hn.2 hp, by rw [bn_length]; exact le_aux hn.2 hp, ?_, ?_⟩
    · rw [hat]
      exact bdF_more _ _ _ _ (by rw [List.length_drop]; exact Nat.le_refl _) (by rw [List.length_drop]; exact sub_aux hn.1)
    · have hte : (bn s).take (p + K) = (bn s).take p ++ ((bn s).drop p).take K := List.take_add
      have hpl : ((bn s).take p).length = p := by rw [List.length_take, bn_length]; omega
      rw [hte, pb_app, hpl]
      have hcase : (K = 1 ∧ ((bn s).drop p).take K = [(R : Int)] ∧ 0 ≤ (R : Int) ∧ (R : Int) < 128) ∨ ((128 : Int) ≤ R ∧ ∀ c ∈ ((bn s).drop p).take K, ct c = false) := by
        have hhi : ∀ c : Int, 128 ≤ c → ct c = false := fun c hc => by unfold ct; simp; omega
        rw [hd.1, hd.2]
        rcases hinv with ⟨a, t, e, z0, z1, q⟩ | ⟨a, b, t, e, z0, z1, z2, z3, q⟩ | ⟨a, b, c, t, e, z0, z1, z2, z3, z4, z5, q⟩ | ⟨a, b, c, d, t, e, z0, z1, z2, z3, z4, z5, z6, z7, q⟩ | ⟨n, z0, z1, q⟩
        · rw [q, e]; exact .inl ⟨rfl, rfl, z0, z1⟩
        · rw [q, e]; refine .inr ⟨by simp only; omega, fun c hc => hhi c ?_⟩
          simp at hc; omega
        · have := U.low_ge a
          rw [q, e]; refine .inr ⟨?_, fun c hc => hhi c ?_⟩
          · simp only
            have y1 : U.lowOf a = 160 ∨ a ≠ 224 := by unfold U.lowOf; (repeat' split) <;> omega
            omega
          · simp at hc; omega
        · have := U.low_ge a
          rw [q, e]; refine .inr ⟨?_, fun c hc => hhi c ?_⟩
          · simp only
            have y1 : U.lowOf a = 144 ∨ a ≠ 240 := by unfold U.lowOf; (repeat' split) <;> omega
            omega
          · simp at hc; omega
        · rw [q] at hw; cases hw
      rw [h3]
      rcases hcase with ⟨_, e, g0, g1⟩ | ⟨g0, g1⟩
      · rw [e]
        cases hp2 : pb ((bn s).take p) with
        | some k =>
          rw [if_neg (by simp [fo]; omega)]; rfl
        | none =>
          by_cases hc : ct R = true
          · rw [pb_one hc]
            have : (R : Int) ≠ 9 ∧ ((R : Int) < 32 ∨ (R : Int) = 127) := by unfold ct at hc; simp at hc; omega
            rw [if_pos ⟨by simp [fo], this⟩]
            simp [fo]
          · rw [pb_none (l := [(R : Int)]) (by simpa using hc)]
            have : ¬ ((R : Int) ≠ 9 ∧ ((R : Int) < 32 ∨ (R : Int) = 127)) := by unfold ct at hc; simp at hc; omega
            rw [if_neg (fun h => this h.2)]
            rfl
      · rw [pb_none g1, if_neg (by omega)]
        simp
  · rw [if_neg hw] at hd hat
    rw [if_neg hw] at hd
    exact .inl ⟨hat, by omega, hd.2⟩
theorem look_bad {l : List Int} {n : Int} {k : Nat} (h : bd l = some k) : LookR l n (.panicked (faultV 152 n k)) := by unfold LookR; rw [h]
theorem look_end {l : List Int} {n f : Int} (h : Lk l l.length f) : (0 ≤ f → LookR l n (.panicked (faultV 150 n f))) ∧ (f < 0 → LookR l n (.returned (.tuple #[]))) := by
  obtain ⟨_, h2, h3⟩ := h
  rw [Nat.sub_self, List.drop_length] at h2
  have hb : bd l = none := h2.symm
  rw [List.take_length] at h3
  unfold LookR
  rw [hb]
  cases hp : pb l with
  | none => rw [hp] at h3; simp [fo] at h3; subst h3; exact ⟨fun h => by omega, fun _ => rfl⟩
  | some k => rw [hp] at h3; simp [fo] at h3; subst h3; exact ⟨fun _ => rfl, fun h => by omega⟩
set_option maxRecDepth 100000 in
set_option maxHeartbeats 4000000 in
theorem look_any (s : ByteArray) (hs : s.size ≤ 1000000) (n : Int) (w : World) (G : Gl w) : Calls Tryz.prog 16 #[.string s, .int .i64 n] w fun e w' => LookR (bn s) n e ∧ Below w.heap.size w w' := by
  have HG := hid (fun W (h : Below w.heap.size w W) => G.below h)
  have HE := hid (fun k h => look_bad (l := bn s) (n := n) (k := k) h)
  clear G
  go_enter Tryz.func16, Tryz.ntmps16
  go_wp2
  go_loopg [4] s.size (fun gf v4 wx => ∃ (p : Nat) (f : Int), v4 = .int .i64 f ∧ -1 ≤ f ∧ f ≤ 1000000 ∧ wx.heap[w.heap.size]? = some (.stringIter s p) ∧ Hid (Below w.heap.size w wx) ∧ Hid (Lk (bn s) p f) ∧ s.size ≤ p + gf)
  case atStart => exact ⟨0, -1, rfl, by omega, by omega, World.iter_heap w s 0, (Below.refl _ w).alloc (Nat.le_refl _) _, ⟨by omega, by rw [List.drop_zero]; rfl, rfl⟩, by omega⟩
  case round =>
    obtain ⟨p, f, rfl, f0, f1, hit, HB, HL, hfu⟩ := hrel
    by_cases hps : p < s.size
    · obtain ⟨g', rfl⟩ : ∃ g', gk = g' + 1 := ⟨gk - 1, by omega⟩
      have hnx : ∀ ty, (Instr.next (.pointer (some ⟨w.heap.size, 0, none⟩)) true ty).run Tryz.prog wr = _ := fun ty => Lib.run_next_any_at wr w.heap.size s p ty hit hps
      have hst := HL.out.step hps
      have HD : Hid (Utf8.decode s p = Utf8.decode (s.extract p s.size) 0) := decL_nx s p hps
      have hr32 := Lib.rune_le s p
      obtain ⟨R, hR⟩ : ∃ R, (Utf8.decode s p).1 = R := ⟨_, rfl⟩
      obtain ⟨K, hK⟩ : ∃ K, (Utf8.decode s p).2 = K := ⟨_, rfl⟩
      have HW := hid (fun W (h : Below w.heap.size w W) => whole_any (s.extract p s.size) (by simp; omega) W (HG.out W h))
      rw [← HD.out, hK] at HW
      rw [hR, hK] at hnx hst
      rw [hR] at hr32
      clear hR hK HD
      have hit2 := Lib.iterAt_heap wr w.heap.size s p (p + K) hit
      have HB2 := hid (Lib.below_iterAt HB.out (k := w.heap.size) (Nat.le_refl _) s (p + K))
      obtain ⟨W, hWd⟩ : ∃ W, wr.iterAt w.heap.size s (p + K) = W := ⟨_, rfl⟩
      rw [hWd] at hnx hit2 HB2
      clear HB HL
      have HW2 := hid (HW.out W HB2.out)
      have HC := hid (fun W => ctl_any (R : Int) W)
      clear HW hWd hit
      rcases hst with ⟨hb, rfl, rfl⟩ | ⟨h1, h2, h3, h4⟩
      · have HBD := hid (HE.out p hb)
        clear hb hr32 HC
        go_wp2_with fail
        refine HW2.out.mono ?_
        rintro e w2 ⟨rfl, B⟩
        have HB3 := hid (HB2.out.trans (B.mono HB2.out.size))
        clear B
        go_wp2
        exact ⟨rfl, HBD.out, HB3.out⟩
      · have H4 := hid h4
        clear h4
        have HGO : Hid (∀ (W' : World), Below W.heap.size W W' → W'.heap[w.heap.size]? = some (.stringIter s (p + K)) ∧ Below w.heap.size w W') := fun W' B => ⟨(B.block _ (Array.getElem?_eq_some_iff.1 hit2).1).trans hit2, HB2.out.trans (B.mono HB2.out.size)⟩
        have HWK : Hid (∀ (R0 : R = 65533), Calls Tryz.prog 35 #[.string (s.extract p s.size)] W fun e w' => e = .returned (.bool true) ∧ Below W.heap.size W w') := fun e0 => HW2.out.mono (by
          rintro e w' ⟨rfl, B⟩
          refine ⟨?_, B⟩
          rw [decide_eq_true (show 1 < K by omega)])
        have q0 : (R : Int) < 1114112 := by omega
        clear HW2 h1
        by_cases hR : R = 65533
        · have HW3 := hid (HWK.out hR)
          subst hR
          rw [if_neg (by omega)] at H4
          have hcf : decide (((65533 : Nat) : Int) < 32 ∨ ((65533 : Nat) : Int) = 127) = false := by decide
          rw [hcf] at HC
          clear HWK hcf
          by_cases hf : f < 0
          all_goals
            go_wp2_with (first
              | (go_at_call 35; refine HW3.out.mono ?_; rintro e w2 ⟨rfl, B⟩; have hit3 := (HGO.out w2 B).1; have HB3 := hid (HGO.out w2 B).2; clear B)
              | (go_at_call 29; refine (HC.out _).mono ?_; rintro e w3 ⟨rfl, hw3⟩; obtain rfl := hw3.symm))
            go_roundg g'
            case measure => omega
            case rel => exact ⟨p + K, f, rfl, f0, f1, hit3, HB3.out, H4.out, by omega⟩
        · have hRb : ((R : Int) == 65533) = false := by simp; omega
          have HB3 := HB2
          clear HWK HGO
          by_cases hf : f < 0
          · by_cases h9 : R = 9
            · subst h9
              rw [if_neg (by simp)] at H4
              go_wp2
              go_roundg g'
              case measure => omega
              case rel => exact ⟨p + K, f, rfl, f0, f1, hit2, HB3.out, H4.out, by omega⟩
            · have h9b : ((R : Int) != 9) = true := by simp; omega
              by_cases hc : (R : Int) < 32 ∨ (R : Int) = 127
              · rw [if_pos ⟨hf, by omega, hc⟩] at H4
                have hcf : decide ((R : Int) < 32 ∨ (R : Int) = 127) = true := by simpa using hc
                rw [hcf] at HC
                clear hcf hc
                go_wp2_with (go_at_call 29; refine (HC.out _).mono ?_; rintro e w3 ⟨rfl, hw3⟩; obtain rfl := hw3.symm)
                go_roundg g'
                case measure => omega
                case rel => exact ⟨p + K, p, rfl, by omega, by omega, hit2, HB3.out, H4.out, by omega⟩
              · rw [if_neg (fun h => hc h.2.2)] at H4
                have hcf : decide ((R : Int) < 32 ∨ (R : Int) = 127) = false := by simpa using hc
                rw [hcf] at HC
                clear hcf hc
                go_wp2_with (go_at_call 29; refine (HC.out _).mono ?_; rintro e w3 ⟨rfl, hw3⟩; obtain rfl := hw3.symm)
                go_roundg g'
                case measure => omega
                case rel => exact ⟨p + K, f, rfl, f0, f1, hit2, HB3.out, H4.out, by omega⟩
          · rw [if_neg (fun h => hf h.1)] at H4
            go_wp2
            go_roundg g'
            case measure => omega
            case rel => exact ⟨p + K, f, rfl, f0, f1, hit2, HB3.out, H4.out, by omega⟩
    · have hnx : ∀ ty, (Instr.next (.pointer (some ⟨w.heap.size, 0, none⟩)) true ty).run Tryz.prog wr = _ := fun ty => Lib.run_next_end_at wr w.heap.size s p ty hit hps
      have hpe : p = (bn s).length := by have := HL.out.le; rw [bn_length] at this ⊢; omega
      have HL2 := hid (look_end (n := n) (hpe ▸ HL.out))
      clear HL hpe
      by_cases hf : 0 ≤ f
      · have HF := hid (HL2.out.1 hf)
        go_wp2
        exact ⟨rfl, HF.out, HB.out⟩
      · have HF := hid (HL2.out.2 (by omega))
        go_wp2
        go_end0
        exact ⟨HF.out, HB.out⟩
end Go.Proofs.YtphkdagapoonjaaGreatDoor.Lx
