/- Plain facts: a text that is read is told as itself; a text that is not, is wrong at a place of its own. -/
import Derived.Test.YtlgnnljleooenaaDoorV
import Derived.Test.YtlgnnljleooenaaDoorT
namespace Go.Proofs.YtlgnnljleooenaaDoor
open Go.RowKit
set_option linter.unusedVariables false

theorem rd_numl {l : List Int} {least : Int} (h : rB l least = true) : numl 6 l 0 0 = (rN l least, rK l least) := by
  unfold rB at h
  unfold rN rK
  unfold rdN at h ⊢
  by_cases hc : (numl 6 l 0 0).2 = 0 ∨ (numl 6 l 0 0).1 < least ∨ 1114111 < (numl 6 l 0 0).1
  · rw [if_pos hc] at h; cases h
  · rw [if_neg hc]; rfl
theorem rd_take {l : List Int} {least : Int} (h : rB l least = true) : l.take (rK l least) = hx (rN l least).toNat :=
  read_back (rd_numl h) (by have := rd_true h; omega)
theorem take_two {l t : List Int} {k j : Nat} {c : Int} (hd : l.drop k = c :: t) : l.take (k + 1 + j) = l.take k ++ c :: t.take j := by
  rw [Nat.add_assoc, List.take_add, hd, Nat.add_comm 1 j, List.take_succ_cons]
theorem rdS_back {l : List Int} {least X Y : Int} {off : Nat} (h : rdS l least = ((X, Y), off, true)) : l.take off = txt1 (X, Y) := by
  cases hB : rB l least with
  | false => rw [rdS_no hB] at h; simp at h
  | true =>
    have ht := rd_take hB
    have hk := rd_true hB
    cases hd : l.drop (rK l least) with
    | nil =>
      rw [rdS_end hB hd] at h
      simp only [Prod.mk.injEq] at h
      obtain ⟨⟨rfl, rfl⟩, rfl, -⟩ := h
      rw [ht]; simp [txt1]
    | cons c t =>
      by_cases hc : c = 45
      · subst hc
        cases hB2 : rB t (rN l least + 1) with
        | false => rw [rdS_bad hB hd hB2] at h; simp at h
        | true =>
          have ht2 := rd_take hB2
          have hk2 := rd_true hB2
          rw [rdS_good hB hd hB2] at h
          simp only [Prod.mk.injEq] at h
          obtain ⟨⟨rfl, rfl⟩, rfl, -⟩ := h
          unfold txt1
          dsimp only
          rw [if_neg (by omega), ← ht, ← ht2]
          exact take_two hd
      · rw [rdS_other hB hd hc] at h
        simp only [Prod.mk.injEq] at h
        obtain ⟨⟨rfl, rfl⟩, rfl, -⟩ := h
        rw [ht]; simp [txt1]
theorem rdS_off {l : List Int} {least X Y : Int} {off : Nat} (h : rdS l least = ((X, Y), off, false)) : off ≤ l.length := by
  cases hB : rB l least with
  | false => rw [rdS_no hB] at h; simp only [Prod.mk.injEq] at h; omega
  | true =>
    have hk := rd_true hB
    have hdl : (l.drop (rK l least)).length = l.length - rK l least := List.length_drop
    cases hd : l.drop (rK l least) with
    | nil => rw [rdS_end hB hd] at h; simp at h
    | cons c t =>
      rw [hd] at hdl
      simp only [List.length_cons] at hdl
      by_cases hc : c = 45
      · subst hc
        cases hB2 : rB t (rN l least + 1) with
        | false => rw [rdS_bad hB hd hB2] at h; simp only [Prod.mk.injEq] at h; omega
        | true => rw [rdS_good hB hd hB2] at h; simp at h
      · rw [rdS_other hB hd hc] at h; simp at h
def Told (l : List Int) (k : Nat) (least : Int) (acc : List Sp) (r : List Sp × Nat × Int) : Prop :=
  (r.2.2 = 0 ∧ r.2.1 = 0 ∧ ∃ m, r.1 = acc ++ m ∧ apart least m ∧ m ≠ [] ∧ l = txt m ∧ r.1.length ≤ 1024) ∨ (r.2.2 = 8 ∧ r.1 = [] ∧ r.2.1 ≤ k + l.length)
theorem prs_told : ∀ (f : Nat) (l : List Int) (k : Nat) (least : Int) (acc : List Sp), 0 ≤ least → l.length < f → acc.length < 1024 → Told l k least acc (prs f l k least acc) := by
  intro f
  induction f with
  | zero => intro l k least acc _ h; omega
  | succ f ih =>
    intro l k least acc h0 hf hacc
    obtain ⟨⟨⟨X, Y⟩, off, ok⟩, hr⟩ : ∃ r, rdS l least = r := ⟨_, rfl⟩
    cases ok with
    | false =>
      rw [prs_no hr]
      exact .inr ⟨rfl, rfl, by have := rdS_off hr; dsimp only; omega⟩
    | true =>
      obtain ⟨g1, g2, g3, g4, g5, g6⟩ := rdS_true hr
      have hb := rdS_back hr
      have e : l = l.take off ++ l.drop off := (List.take_append_drop _ _).symm
      cases hd : l.drop off with
      | nil =>
        rw [prs_end hr hd]
        refine .inl ⟨rfl, rfl, [(X, Y)], rfl, ⟨g6, g4, g5, trivial⟩, by simp, ?_, by simp; omega⟩
        rw [e, hd, hb]; simp [txt]
      | cons c t =>
        have hdl : (l.drop off).length = l.length - off := List.length_drop
        rw [hd] at hdl
        simp only [List.length_cons] at hdl
        by_cases hc : c ≠ 44 ∨ acc.length + 1 = 1024
        · rw [prs_bad hr hd hc]
          exact .inr ⟨rfl, rfl, by dsimp only; omega⟩
        · rw [prs_go hr hd hc]
          have hc44 : c = 44 := by
            by_cases h : c = 44
            · exact h
            · exact absurd (.inl h) hc
          have hacc2 : acc.length + 1 ≠ 1024 := fun h => hc (.inr h)
          rcases ih t (k + off + 1) (Y + 2) (acc ++ [(X, Y)]) (by omega) (by omega) (by simp; omega) with ⟨a1, a2, m, a3, a4, a5, a6, a7⟩ | ⟨a1, a2, a3⟩
          · refine .inl ⟨a1, a2, (X, Y) :: m, by rw [a3]; simp, ⟨g6, g4, g5, a4⟩, by simp, ?_, a7⟩
            rw [e, hd, hb, hc44, a6]
            rcases m with _ | ⟨s, m⟩
            · exact absurd rfl a5
            · rfl
          · exact .inr ⟨a1, a2, by omega⟩
theorem parse_told (l : List Int) : ((parse l).2.2 = 0 ∧ (parse l).2.1 = 0 ∧ apart 0 (parse l).1 ∧ txt (parse l).1 = l ∧ (parse l).1.length ≤ 1024) ∨ ((parse l).2.2 = 8 ∧ (parse l).1 = [] ∧ (parse l).2.1 ≤ l.length) := by
  unfold parse
  by_cases h0 : l.length = 0
  · rw [if_pos h0]
    obtain rfl := List.length_eq_zero_iff.1 h0
    exact .inl ⟨rfl, rfl, trivial, rfl, by simp⟩
  · rw [if_neg h0]
    rcases prs_told (l.length + 1) l 0 0 [] (Int.le_refl _) (by omega) (by simp) with ⟨a1, a2, m, a3, a4, a5, a6, a7⟩ | ⟨a1, a2, a3⟩
    · rw [List.nil_append] at a3
      refine .inl ⟨a1, a2, by rw [a3]; exact a4, by rw [a3]; exact a6.symm, a7⟩
    · exact .inr ⟨a1, a2, by omega⟩

set_option maxRecDepth 100000 in
set_option maxHeartbeats 3200000 in
/-- The second half of SpanBack, in whatever world it begins: read a text, tell what was read. -/
theorem back_walk (v : Value) (a : List Sp) (s : ByteArray) (w : World) (hT : Tab w) (hv : SpansAt w v a) :
    Calls Tryd.prog 6 #[v, .string s] w fun e W' => e = .returned (.bool true) ∧ Below w.heap.size w W' := by
  obtain ⟨pv, kv, rfl⟩ : ∃ p k, v = .slice p a.length k := by obtain ⟨p, k, e, _⟩ := hv; exact ⟨p, k, e⟩
  by_cases hlong : 60 < a.length
  · have hl' : (60 : Int) < (a.length : Int) := by omega
    go_enter Tryd.func6, Tryd.ntmps6
    go_wp2_with fail
    refine (works_any w hT).mono ?_
    rintro e w1 ⟨rfl, h1⟩
    go_wp2
    go_ret
    exact ⟨rfl, h1⟩
  have hl' : ¬ (60 : Int) < (a.length : Int) := by omega
  by_cases hlong2 : 4096 < s.size
  · have hs' : (4096 : Int) < (s.size : Int) := by omega
    go_enter Tryd.func6, Tryd.ntmps6
    go_wp2_with fail
    refine (works_any w hT).mono ?_
    rintro e w1 ⟨rfl, h1⟩
    go_wp2
    go_ret
    exact ⟨rfl, h1⟩
  have hs' : ¬ (4096 : Int) < (s.size : Int) := by omega
  have hla : a.length ≤ 60 := by omega
  have hsz : s.size ≤ 4096 := by omega
  clear hlong hlong2
  go_enter Tryd.func6, Tryd.ntmps6
  go_wp2_with fail
  refine (copied_any _ a (by omega) _ hv).mono ?_
  rintro e w1 ⟨v1, rfl, how1, hB1⟩
  have hS1 := SpansAt.own rfl how1
  clear how1
  go_wp2_with fail
  refine (text_any _ a (by omega) _ (hT.below hB1 (Nat.le_refl _)) hS1).mono ?_
  rintro e w2 ⟨⟨t, r, rfl, hR⟩, hb2⟩
  have hB2 := hB1.trans (hb2.mono hB1.size)
  clear hb2 hB1 hS1
  rcases hR with ⟨hc, rfl, rfl⟩ | ⟨hc, rfl, m, hnf, hml, hbn⟩
  · have HC : Hid (chk a ≠ 0) := hc
    have hcb : ((chk a : Int) == 0) = false := by simpa using hc
    clear hc
    obtain ⟨⟨q, pl, er⟩, hq⟩ : ∃ x, x = parse (bn s) := ⟨_, rfl⟩
    have HQ := hid' hq
    have hto := parse_told (bn s)
    rw [← hq] at hto
    clear hq
    dsimp only at hto
    rcases hto with ⟨rfl, rfl, e3, e4, e5⟩ | ⟨rfl, rfl, e3⟩
    · have HNQ := hid' (nf_apart e3)
      have HOQ := hid' (chk_ok q (by omega) (apart_ok (Int.le_refl _) e3))
      have HTX := hid' e4
      clear e3 e4
      go_wp2_with fail
      refine (parse_any s (by omega) _).mono ?_
      rw [← HQ.out]
      rintro e w20 ⟨⟨p20, k20, rfl, hS20⟩, hb20⟩
      dsimp only at hS20 ⊢
      have hB20 := hB2.trans (hb20.mono hB2.size)
      clear hb20 hB2
      go_wp2_with fail
      refine (text_any _ q (by omega) _ (hT.below hB20 (Nat.le_refl _)) hS20).mono ?_
      rintro e w21 ⟨⟨t21, r21, rfl, hR21⟩, hb21⟩
      have hB21 := hB20.trans (hb21.mono hB20.size)
      clear hb21 hB20 hS20
      rcases hR21 with ⟨hc, _⟩ | ⟨-, rfl, m21, hnf21, -, hbn21⟩
      · exact absurd HOQ.out hc
      obtain rfl := hnf21.unique HNQ.out
      obtain rfl : t21 = s := bn_inj (by rw [hbn21, HTX.out])
      clear hnf21 hbn21
      go_wp2_with fail
      refine (works_any w21 (hT.below hB21 (Nat.le_refl _))).mono ?_
      rintro e w22 ⟨rfl, h22⟩
      go_wp2
      go_ret
      exact ⟨rfl, hB21.trans (h22.mono hB21.size)⟩
    · rw [bn_length] at e3
      go_wp2_with fail
      refine (parse_any s (by omega) _).mono ?_
      rw [← HQ.out]
      rintro e w20 ⟨⟨p20, k20, rfl, hS20⟩, hb20⟩
      dsimp only at hS20 ⊢
      have hB20 := hB2.trans (hb20.mono hB2.size)
      clear hb20 hB2
      simp only [List.length_nil]
      have e3' : (pl : Int) ≤ (s.size : Int) := by omega
      go_wp2_with fail
      refine (works_any w20 (hT.below hB20 (Nat.le_refl _))).mono ?_
      rintro e w22 ⟨rfl, h22⟩
      go_wp2
      go_ret
      exact ⟨rfl, hB20.trans (h22.mono hB20.size)⟩
  · have HC := hid' hc
    have hfit := fits_has (chk_zero hc).2
    have hap := hnf.apart hfit
    have HP : Hid (parse (bn t) = (m, 0, 0)) := by show _ = _; rw [hbn]; exact parse_txt m hap (by omega)
    have HNF := hid' hnf
    have htl : t.size ≤ 1099511627776 := by
      have := congrArg List.length hbn
      rw [bn_length] at this
      have := txt_len m
      omega
    clear hc hfit hap hnf hbn
    go_wp2_with fail
    refine (parse_any t htl _).mono ?_
    rw [HP.out]
    rintro e w3 ⟨⟨p3, k3, rfl, hS3⟩, hb3⟩
    dsimp only at hS3 ⊢
    have hB3 := hB2.trans (hb3.mono hB2.size)
    clear hb3 hB2
    go_wp2_with fail
    refine (copied_any _ a (by omega) _ (hv.below hB3 (Nat.le_refl _))).mono ?_
    rintro e w4 ⟨v4, rfl, how4, hb4⟩
    have hS4 := SpansAt.own rfl how4
    have hB4 := hB3.trans (hb4.mono hB3.size)
    have hP4 := hS3.below hb4 (Nat.le_refl _)
    clear how4 hb4 hB3 hS3
    go_wp2_with fail
    refine (norm_any _ a (by omega) _ hS4).mono ?_
    rintro e w5 ⟨⟨p5, k5, n5, r5, rfl, hN5, hS5⟩, hb5⟩
    rcases hN5 with ⟨hc, _⟩ | ⟨-, hnf5, hnl5, rfl⟩
    · exact absurd HC.out hc
    have hB5 := hB4.trans (hb5.mono hB4.size)
    have hP5 := hP4.below hb5 (Nat.le_refl _)
    have HEQ : Hid (m = n5) := HNF.out.unique hnf5
    clear hb5 hB4 hP4 hS4 hnf5
    go_wp2_with fail
    refine (same_any _ _ m n5 (by omega) (by omega) _ hP5 hS5).mono ?_
    rw [decide_eq_true (HEQ.out)]
    rintro e w6 ⟨rfl, n6, hq6⟩
    obtain ⟨w7, hw7⟩ : ∃ w7, w7 = w6 := ⟨_, rfl⟩
    rw [← hw7]
    have hB7 : Below w.heap.size w w7 := by rw [hw7, hq6]; exact below_drewN hB5 n6
    clear hw7 hq6 hB5 hP5 hS5
    obtain ⟨⟨q, pl, er⟩, hq⟩ : ∃ x, x = parse (bn s) := ⟨_, rfl⟩
    have HQ := hid' hq
    have hto := parse_told (bn s)
    rw [← hq] at hto
    clear hq
    dsimp only at hto
    rcases hto with ⟨rfl, rfl, e3, e4, e5⟩ | ⟨rfl, rfl, e3⟩
    · have HNQ := hid' (nf_apart e3)
      have HOQ := hid' (chk_ok q (by omega) (apart_ok (Int.le_refl _) e3))
      have HTX := hid' e4
      clear e3 e4
      go_wp2_with fail
      refine (parse_any s (by omega) _).mono ?_
      rw [← HQ.out]
      rintro e w20 ⟨⟨p20, k20, rfl, hS20⟩, hb20⟩
      dsimp only at hS20 ⊢
      have hB20 := hB7.trans (hb20.mono hB7.size)
      clear hb20 hB7
      go_wp2_with fail
      refine (text_any _ q (by omega) _ (hT.below hB20 (Nat.le_refl _)) hS20).mono ?_
      rintro e w21 ⟨⟨t21, r21, rfl, hR21⟩, hb21⟩
      have hB21 := hB20.trans (hb21.mono hB20.size)
      clear hb21 hB20 hS20
      rcases hR21 with ⟨hc, _⟩ | ⟨-, rfl, m21, hnf21, -, hbn21⟩
      · exact absurd HOQ.out hc
      obtain rfl := hnf21.unique HNQ.out
      obtain rfl : t21 = s := bn_inj (by rw [hbn21, HTX.out])
      clear hnf21 hbn21
      go_wp2_with fail
      refine (works_any w21 (hT.below hB21 (Nat.le_refl _))).mono ?_
      rintro e w22 ⟨rfl, h22⟩
      go_wp2
      go_ret
      exact ⟨rfl, hB21.trans (h22.mono hB21.size)⟩
    · rw [bn_length] at e3
      go_wp2_with fail
      refine (parse_any s (by omega) _).mono ?_
      rw [← HQ.out]
      rintro e w20 ⟨⟨p20, k20, rfl, hS20⟩, hb20⟩
      dsimp only at hS20 ⊢
      have hB20 := hB7.trans (hb20.mono hB7.size)
      clear hb20 hB7
      simp only [List.length_nil]
      have e3' : (pl : Int) ≤ (s.size : Int) := by omega
      go_wp2_with fail
      refine (works_any w20 (hT.below hB20 (Nat.le_refl _))).mono ?_
      rintro e w22 ⟨rfl, h22⟩
      go_wp2
      go_ret
      exact ⟨rfl, hB20.trans (h22.mono hB20.size)⟩
end Go.Proofs.YtlgnnljleooenaaDoor
