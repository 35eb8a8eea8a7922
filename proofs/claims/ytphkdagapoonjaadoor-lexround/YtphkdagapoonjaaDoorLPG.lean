/- lex.backslashed. (Stage 15.) -/
import Derived.Test.YtphkdagapoonjaaDoorLPF
namespace Go.Proofs.YtphkdagapoonjaaDoor.Lx
open Go.RowKit
open Go.Proofs.YtphkdagapoonjaaDoor.F (bn bn_length bn_append bn_inj bn_get byte_bd hid bn_extract isEmpty_false isEmpty_true str_eq same_eq)
open Go.Proofs.YtphkdagapoonjaaDoor.U (nx enc encs scal val Bytes)
set_option linter.unusedVariables false

theorem tw_cut {p : Int → Bool} : ∀ {g r : List Int} {c : Int}, (∀ x ∈ g, p x = true) → p c = false → (g ++ c :: r).takeWhile p = g
  | [], r, c, _, h => by rw [List.nil_append, List.takeWhile_cons, if_neg (by simp [h])]
  | x :: g, r, c, hg, h => by
    rw [List.cons_append, List.takeWhile_cons, if_pos (hg x (by simp)), tw_cut (fun y hy => hg y (by simp [hy])) h]
theorem tw_form {p : Int → Bool} : ∀ (q : List Int), q.takeWhile p = q ∨ ∃ c r, q = q.takeWhile p ++ c :: r ∧ p c = false
  | [] => .inl rfl
  | x :: q => by
    cases hx : p x with
    | false => exact .inr ⟨x, q, by rw [List.takeWhile_cons, if_neg (by simp [hx])]; rfl, hx⟩
    | true =>
      rw [List.takeWhile_cons, if_pos hx]
      rcases tw_form q with h | ⟨c, r, h, hc⟩
      · exact .inl (by rw [h])
      · exact .inr ⟨c, r, by rw [List.cons_append, ← h], hc⟩
theorem tw_mem {p : Int → Bool} {q : List Int} : ∀ x ∈ q.takeWhile p, p x = true := by
  induction q with
  | nil => intro x hx; simp at hx
  | cons a q ih =>
    intro x hx
    rw [List.takeWhile_cons] at hx
    split at hx
    · rw [List.mem_cons] at hx
      rcases hx with rfl | hx
      · assumption
      · exact ih x hx
    · simp at hx
theorem not125 {x : Int} (h : isd x = true) : is 125 x = true := by
  unfold is
  rw [decide_eq_true_eq]
  rintro rfl
  revert h; decide
theorem es_cut {l : List Int} (h1 : l.getD 1 0 = 117) (h2 : l.getD 2 0 = 123) (g : List Int) (hg : g = (l.drop 3).takeWhile (is 125)) :
    ((125 : Int) ∈ l.drop 3 ∧ okD g → es l = (enc (hv g), g.length + 4)) ∧ (¬ ((125 : Int) ∈ l.drop 3 ∧ okD g) → es l = ([], 0)) := by
  have hb : ¬ (l.getD 1 0 = 34 ∨ l.getD 1 0 = 92) := by omega
  have e : es l = if l.getD 1 0 = 117 ∧ l.getD 2 0 = 123 ∧ ds l ≠ [] ∧ l.getD (3 + (ds l).length) 0 = 125 ∧ scal (hv (ds l)) = true then (enc (hv (ds l)), (ds l).length + 4) else ([], 0) := by
    unfold es; rw [if_neg hb]
  have at3 : ∀ k, l.getD (3 + k) 0 = (l.drop 3).getD k 0 := fun k => by simp [List.getD, List.getElem?_drop]
  obtain ⟨q, hq⟩ : ∃ q, l.drop 3 = q := ⟨_, rfl⟩
  have hds : ds l = (q.take 6).takeWhile isd := by unfold ds; rw [hq]
  simp only [at3] at e
  rw [hq] at hg e ⊢
  clear at3 hb
  constructor
  · rintro ⟨hm, ho⟩
    rcases tw_form (p := is 125) q with h | ⟨c, r, h, hc⟩
    · rw [← h] at hm
      have := tw_mem _ hm
      simp [is] at this
    · have hc2 : c = 125 := by unfold is at hc; simpa using hc
      subst hc2
      rw [← hg] at h
      have hd : ds l = g := by
        rw [hds, h]
        have hl := ho.2.2.1
        by_cases h6 : g.length = 6
        · rw [← h6, List.take_left]
          exact (tw_all ho.2.1).1
        · rw [List.take_append, List.take_of_length_le (by omega)]
          obtain ⟨m, hm⟩ : ∃ m, 6 - g.length = m + 1 := ⟨6 - g.length - 1, by omega⟩
          rw [hm, List.take_succ_cons]
          exact tw_cut ho.2.1 (by decide)
      rw [e, hd, if_pos]
      refine ⟨h1, h2, ho.1, ?_, ho.2.2.2⟩
      rw [h]
      simp
  · intro hn
    rw [e, if_neg]
    rintro ⟨-, -, hne, h125, hsc⟩
    apply hn
    rw [hds] at hne h125 hsc
    obtain ⟨D, hD⟩ : ∃ D, (q.take 6).takeWhile isd = D := ⟨_, rfl⟩
    rw [hD] at hne h125 hsc
    have hDa : AllD D := fun c hc => by rw [← hD] at hc; exact tw_mem c hc
    have hDl : D.length ≤ 6 := by
      have h1 : D.length ≤ (q.take 6).length := by rw [← hD]; exact (List.takeWhile_sublist _).length_le
      rw [List.length_take] at h1; omega
    have hpre : D <+: q := by
      rw [← hD]
      exact (List.takeWhile_prefix _).trans (List.take_prefix _ _)
    obtain ⟨r, hr⟩ := hpre
    rw [← hr] at h125
    rw [List.getD_eq_getElem?_getD, List.getElem?_append_right (Nat.le_refl _), Nat.sub_self] at h125
    rcases r with _ | ⟨c, r⟩
    · simp at h125
    have hc : c = 125 := by simpa using h125
    subst hc
    have hgd : g = D := by
      rw [hg, ← hr]
      exact tw_cut (fun x hx => not125 (hDa x hx)) (by decide)
    rw [hgd]
    exact ⟨by rw [← hr]; simp, hne, hDa, hDl, hsc⟩
theorem es_no {l : List Int} (h0 : ¬ (l.getD 1 0 = 34 ∨ l.getD 1 0 = 92)) (h : ¬ (l.getD 1 0 = 117 ∧ l.getD 2 0 = 123)) : es l = ([], 0) := by
  unfold es
  rw [if_neg h0, if_neg (fun x => h ⟨x.1, x.2.1⟩)]
theorem es_yes {l : List Int} (h0 : l.getD 1 0 = 34 ∨ l.getD 1 0 = 92) : es l = ([l.getD 1 0], 2) := by
  unfold es
  rw [if_pos h0]
theorem pre_nn : ∀ (p l : List UInt8), p.isPrefixOf l = (nn p).isPrefixOf (nn l)
  | [], _ => rfl
  | _ :: _, [] => rfl
  | a :: p, b :: l => by
    show (a == b && p.isPrefixOf l) = (((a.toNat : Int) == (b.toNat : Int)) && (nn p).isPrefixOf (nn l))
    rw [pre_nn p l]
    congr 1
    rw [Bool.eq_iff_iff]
    simp only [beq_iff_eq]
    exact ⟨fun h => by rw [h], fun h => UInt8.toNat_inj.1 (by omega)⟩
theorem getD_cons (a : Int) (l : List Int) (k : Nat) : (a :: l).getD (k + 1) 0 = l.getD k 0 := by simp [List.getD]
/-- Is it that what l begins with, behind a backslash? -/
theorem pre_two {l : List Int} (h : l.getD 0 0 = 92) (hl : l ≠ []) (c : Int) (hc : c ≠ 0) : List.isPrefixOf [92, c] l = decide (l.getD 1 0 = c) := by
  rcases l with _ | ⟨a, _ | ⟨b, l⟩⟩
  · exact absurd rfl hl
  · simp [List.isPrefixOf]; intro _; omega
  · have : a = 92 := by simpa using h
    subst this
    rw [Bool.eq_iff_iff]
    simp [List.isPrefixOf]
    exact eq_comm
theorem pre_three {l : List Int} (h : l.getD 0 0 = 92) (hl : l ≠ []) : List.isPrefixOf [92, 117, 123] l = decide (l.getD 1 0 = 117 ∧ l.getD 2 0 = 123) := by
  rcases l with _ | ⟨a, _ | ⟨b, _ | ⟨c, l⟩⟩⟩
  · exact absurd rfl hl
  · simp [List.isPrefixOf]
  · simp [List.isPrefixOf]
  · have : a = 92 := by simpa using h
    subst this
    rw [Bool.eq_iff_iff]
    simp [List.isPrefixOf]
    omega
def BsR (l : List Int) (e : Ending) : Prop :=
  ((es l).2 = 0 ∧ e = .returned (.tuple #[.int .i32 0, .int .i64 0])) ∨ ∃ (r : Int) (k : Nat), scal r = true ∧ es l = (enc r, k) ∧ k ≠ 0 ∧ e = .returned (.tuple #[.int .i32 r, .int .i64 k])
theorem hasp_any (s p : ByteArray) (w : World) : Calls Tryd.prog 51 #[.string s, .string p] w fun e w' => e = .returned (.bool ((bn p).isPrefixOf (bn s))) ∧ w' = w := by
  refine Calls.mono (show Calls Tryd.prog 51 #[.string s, .string p] w _ from Any.strings_HasPrefix Tryd.l99 s p w) ?_
  rintro e w' ⟨rfl, rfl⟩
  refine ⟨?_, rfl⟩
  show Ending.returned (.bool (List.isPrefixOf _ _)) = _
  rw [pre_nn]; rfl
theorem cutp_any (s p : ByteArray) (w : World) : Calls Tryd.prog 52 #[.string s, .string p] w fun e w' => (∃ t, bn t = (if (bn p).isPrefixOf (bn s) = true then (bn s).drop p.size else bn s) ∧ e = .returned (.tuple #[.string t, .bool ((bn p).isPrefixOf (bn s))])) ∧ w' = w := by
  refine Calls.mono (show Calls Tryd.prog 52 #[.string s, .string p] w _ from Any.strings_CutPrefix Tryd.l103 s p w) ?_
  rintro e w' ⟨rfl, rfl⟩
  have hh : Lib.hasPrefix s.data.toList p.data.toList = (bn p).isPrefixOf (bn s) := by show List.isPrefixOf _ _ = _; rw [pre_nn]; rfl
  refine ⟨⟨_, ?_, by rw [hh]⟩, rfl⟩
  rw [bn_arr]
  unfold Lib.trimPrefix
  rw [hh]
  have hps : p.data.toList.length = p.size := by rw [Array.length_toList]; rfl
  split
  · rw [nn_drop, hps]; rfl
  · rfl
theorem cut_any (s : ByteArray) (c : UInt8) (hs : s.size ≤ 1000000000) (w : World) (G : Gl w) : Calls Tryd.prog 25 #[.string s, .string ⟨#[c]⟩] w fun e w' => (∃ a b, bn a = (bn s).takeWhile (is c.toNat) ∧ bn b = ((bn s).dropWhile (is c.toNat)).drop 1 ∧ e = .returned (.tuple #[.string a, .string b, .bool (decide ((c.toNat : Int) ∈ bn s))])) ∧ Below w.heap.size w w' := by
  obtain ⟨m, hm⟩ := G.maxl
  refine Calls.mono (show Calls Tryd.prog 25 #[.string s, .string ⟨#[c]⟩] w _ from Any.strings_Cut Tryd.l145 s ⟨#[c]⟩ m w (by omega) hm) ?_
  rintro e w' ⟨rfl, n, rfl⟩
  have h := cut_one s.data.toList c
  refine ⟨⟨⟨(Lib.cut s.data.toList [c]).1.toArray⟩, ⟨(Lib.cut s.data.toList [c]).2.1.toArray⟩, ?_, ?_, by rw [bn_nn, ← h.2.2]⟩, below_drewNv (Below.refl _ w) n⟩
  · rw [bn_arr]; exact h.1
  · rw [bn_arr]; exact h.2.1
set_option maxRecDepth 100000 in
set_option maxHeartbeats 4000000 in
theorem bs_any (s : ByteArray) (h0 : 0 < s.size) (hs : s.size ≤ 1000000) (h92 : (bn s).getD 0 0 = 92) (w : World) (G : Gl w) : Calls Tryd.prog 41 #[.string s] w fun e W' => BsR (bn s) e ∧ Below w.heap.size w W' := by
  have hl := bn_length s
  have hne : bn s ≠ [] := fun e => by rw [e] at hl; simp at hl; omega
  have HP1 := hid (fun W => hasp_any s ⟨#[92, 34]⟩ W)
  have HP2 := hid (fun W => hasp_any s ⟨#[92, 92]⟩ W)
  have HP3 := hid (fun W => cutp_any s ⟨#[92, 117, 123]⟩ W)
  rw [show bn ⟨#[92, 34]⟩ = [92, 34] from rfl, pre_two h92 hne 34 (by decide)] at HP1
  rw [show bn ⟨#[92, 92]⟩ = [92, 92] from rfl, pre_two h92 hne 92 (by decide)] at HP2
  rw [show bn ⟨#[92, 117, 123]⟩ = [92, 117, 123] from rfl, show (⟨#[92, 117, 123]⟩ : ByteArray).size = 3 from rfl, pre_three h92 hne] at HP3
  have HG := hid (fun W (h : Below w.heap.size w W) => G.below h)
  have HL := hid hl
  by_cases h34 : (bn s).getD 1 0 = 34
  · have hs1 : 1 < s.size := by
      rw [← hl]
      apply Classical.byContradiction; intro h
      rw [List.getD_eq_getElem?_getD, List.getElem?_eq_none (by omega)] at h34
      simp at h34
    have hx : ((s[1]'hs1).toNat : Int) = 34 := by rw [← bn_get s 1 hs1]; rw [List.getD_eq_getElem?_getD] at h34; exact h34
    have HE : Hid (es (bn s) = (enc 34, 2)) := by show _ = _; rw [es_yes (.inl h34), h34]; rfl
    have hw : IntKind.i32.wrap 34 = 34 := by decide
    rw [decide_eq_true h34] at HP1
    clear h34 h92 hne hl G HP2 HP3
    go_enter Tryd.func41, Tryd.ntmps41
    go_wp2_with (go_at_call 51; refine (HP1.out _).mono ?_; rintro e w2 ⟨rfl, hw2⟩; obtain rfl := hw2.symm)
    go_ret2
    exact ⟨.inr ⟨34, 2, by decide, HE.out, by decide, by first | rfl | rw [hx] <;> rfl⟩, Below.refl _ _⟩
  · rw [decide_eq_false h34] at HP1
    by_cases h9 : (bn s).getD 1 0 = 92
    · have hs1 : 1 < s.size := by
        rw [← hl]
        apply Classical.byContradiction; intro h
        rw [List.getD_eq_getElem?_getD, List.getElem?_eq_none (by omega)] at h9
        simp at h9
      have hx : ((s[1]'hs1).toNat : Int) = 92 := by rw [← bn_get s 1 hs1]; rw [List.getD_eq_getElem?_getD] at h9; exact h9
      have HE : Hid (es (bn s) = (enc 92, 2)) := by show _ = _; rw [es_yes (.inr h9), h9]; rfl
      have hw : IntKind.i32.wrap 92 = 92 := by decide
      rw [decide_eq_true h9] at HP2
      clear h34 h92 hne hl G HP3 h9
      go_enter Tryd.func41, Tryd.ntmps41
      go_wp2_with fail
      refine (HP1.out _).mono ?_
      rintro e w2 ⟨rfl, hw2⟩
      obtain rfl := hw2.symm
      go_wp2_with fail
      refine (HP2.out _).mono ?_
      rintro e w2 ⟨rfl, hw2⟩
      obtain rfl := hw2.symm
      go_wp2
      go_ret2
      exact ⟨.inr ⟨92, 2, by decide, HE.out, by decide, by first | rfl | rw [hx] <;> rfl⟩, Below.refl _ _⟩
    · rw [decide_eq_false h9] at HP2
      have hno : ¬ ((bn s).getD 1 0 = 34 ∨ (bn s).getD 1 0 = 92) := by omega
      by_cases h3 : (bn s).getD 1 0 = 117 ∧ (bn s).getD 2 0 = 123
      · rw [decide_eq_true h3] at HP3
        have HE := hid (es_cut h3.1 h3.2 _ rfl)
        clear h34 h92 hne hl h9 h3 hno
        go_enter Tryd.func41, Tryd.ntmps41
        go_wp2_with fail
        refine (HP1.out _).mono ?_
        rintro e w2 ⟨rfl, hw2⟩
        obtain rfl := hw2.symm
        go_wp2_with fail
        refine (HP2.out _).mono ?_
        rintro e w2 ⟨rfl, hw2⟩
        obtain rfl := hw2.symm
        go_wp2_with fail
        refine (HP3.out _).mono ?_
        rintro e w2 ⟨⟨t, ht, rfl⟩, hw2⟩
        obtain rfl := hw2.symm
        rw [if_pos trivial] at ht
        have hts : t.size ≤ s.size := by rw [← bn_length, ht, List.length_drop, HL.out]; omega
        have HCU := hid (cut_any t 125 (by omega) w (HG.out w (Below.refl _ _)))
        rw [ht, show (((125 : UInt8).toNat : Nat) : Int) = 125 from rfl] at HCU
        clear ht
        go_wp2_with fail
        refine HCU.out.mono ?_
        rintro e w3 ⟨⟨a, b, ha, hb, rfl⟩, B⟩
        rw [← ha] at HE
        have hal : a.size ≤ 1000000 := by
          have h1 : (bn a).length ≤ ((bn s).drop 3).length := by rw [ha]; exact (List.takeWhile_sublist _).length_le
          rw [bn_length, List.length_drop, HL.out] at h1
          omega
        have HA := hid (bn_length a)
        have HSC := hid (scalar_any a hal w3 (HG.out w3 B))
        have HB := hid B
        clear ha hb HCU B
        by_cases hm : (125 : Int) ∈ (bn s).drop 3
        · rw [decide_eq_true hm]
          go_wp2_with fail
          refine HSC.out.mono ?_
          rintro e w4 ⟨⟨ho, rfl⟩ | ⟨ho, rfl⟩, B4⟩
          · have HE2 := hid (HE.out.1 ⟨hm, ho⟩)
            have HO := hid ho
            have HB4 := hid (HB.out.trans (B4.mono HB.out.size))
            clear HE hm ho B4
            go_wp2
            go_ret2
            refine ⟨.inr ⟨hv (bn a), a.size + 4, HO.out.2.2.2, by rw [HE2.out, HA.out], by omega, ?_⟩, HB4.out⟩
            first
              | (rw [show ((a.size + 4 : Nat) : Int) = 3 + (a.size : Int) + 1 by omega]; rfl)
              | (simp; omega)
          · have HE2 := hid (HE.out.2 (fun h => ho h.2))
            have HB4 := hid (HB.out.trans (B4.mono HB.out.size))
            clear HE hm ho B4
            go_wp2
            go_ret2
            exact ⟨.inl ⟨by rw [HE2.out], rfl⟩, HB4.out⟩
        · rw [decide_eq_false hm]
          have HE2 := hid (HE.out.2 (fun h => hm h.1))
          clear HE hm
          go_wp2
          go_ret2
          exact ⟨.inl ⟨by rw [HE2.out], rfl⟩, HB.out⟩
      · rw [decide_eq_false h3] at HP3
        have HE := hid (es_no hno h3)
        clear h34 h92 hne hl h9 h3 hno
        go_enter Tryd.func41, Tryd.ntmps41
        go_wp2_with fail
        refine (HP1.out _).mono ?_
        rintro e w2 ⟨rfl, hw2⟩
        obtain rfl := hw2.symm
        go_wp2_with fail
        refine (HP2.out _).mono ?_
        rintro e w2 ⟨rfl, hw2⟩
        obtain rfl := hw2.symm
        go_wp2_with fail
        refine (HP3.out _).mono ?_
        rintro e w2 ⟨⟨t, ht, rfl⟩, hw2⟩
        obtain rfl := hw2.symm
        rw [if_neg (by simp)] at ht
        have hts : t.size ≤ s.size := by rw [← bn_length, ht, HL.out]; omega
        have HCU := hid (cut_any t 125 (by omega) w (HG.out w (Below.refl _ _)))
        clear ht
        go_wp2_with fail
        refine HCU.out.mono ?_
        rintro e w3 ⟨⟨a, b, ha, hb, rfl⟩, B⟩
        clear ha hb HCU
        go_wp2
        go_ret2
        exact ⟨.inl ⟨by rw [HE.out], rfl⟩, B⟩
end Go.Proofs.YtphkdagapoonjaaDoor.Lx
