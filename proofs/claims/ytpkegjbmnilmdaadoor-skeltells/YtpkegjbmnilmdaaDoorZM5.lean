/- Texts of one layer, one behind the other: MH. -/
import Derived.Test.YtpkegjbmnilmdaaDoorZM3
/- SkelAlike's walk, over what it wants of the program. -/
namespace Go.Proofs.YtpkegjbmnilmdaaDoor.S
open Go.RowKit
set_option linter.unusedVariables false

/-! ### What is put together -/
theorem prs_scal : ∀ p ∈ D.prs, U.scal p.1 = true := by decide +kernel
theorem pr_scal {a b q : Int} (h : N.pr a b = (q, true)) : U.scal q = true := by
  unfold N.pr D.prf at h
  cases hf : D.prs.find? (fun x => x.2.1 == a && x.2.2 == b) with
  | none => rw [hf] at h; cases h
  | some p =>
    rw [hf] at h
    obtain ⟨rfl, _⟩ := Prod.mk.inj h
    exact prs_scal p (List.mem_of_find?_eq_some hf)
def Scp (l : List N.Pt) : Prop := ∀ p ∈ l, U.scal p.1 = true
theorem tstep_scal (t : N.TS) (c : N.Pt) (ht : Scp (N.tout t)) (hc : U.scal c.1 = true) : Scp (N.tout (N.tstep t c)) := by
  rcases N.tstep_cases t c with h | ⟨A, s, B, q, ht', hr, hq, h⟩
  · rw [h, N.app_out]
    intro p hp
    rcases List.mem_append.1 hp with hp | hp
    · exact ht p hp
    · simp at hp; rw [hp]; exact hc
  · rw [h]
    rw [ht'] at ht
    intro p hp
    simp only [N.tout] at hp ht
    rcases List.mem_append.1 hp with hp | hp
    · exact ht p (List.mem_append.2 (.inl hp))
    · rcases List.mem_cons.1 hp with rfl | hp
      · exact pr_scal hq
      · exact ht p (List.mem_append.2 (.inr (List.mem_cons.2 (.inr hp))))
theorem tfold_scal : ∀ (l : List N.Pt) (t : N.TS), Scp (N.tout t) → Scp l → Scp (N.tout (l.foldl N.tstep t))
  | [], t, h, _ => h
  | c :: l, t, h, hl => by
    rw [List.foldl_cons]
    exact tfold_scal l _ (tstep_scal t c h (hl c (by simp))) (fun p hp => hl p (by simp [hp]))
theorem nfc_scal (l : List Int) (h : ∀ c ∈ l, U.scal c = true) : ∀ c ∈ N.nfcI l, U.scal c = true := by
  have hp : Scp (N.ord ((l.flatMap N.fd).map N.pt)) := by
    intro p hp
    have hm := (N.ord_perm _).mem_iff.1 hp
    obtain ⟨c, hc, rfl⟩ := List.mem_map.1 hm
    obtain ⟨r, hr, hcr⟩ := List.mem_flatMap.1 hc
    exact fd_scal (h r hr) hcr
  have := tfold_scal _ (none, []) (fun p hp => by simp [N.tout] at hp) hp
  intro c hc
  unfold N.nfcI N.comp N.tst at hc
  obtain ⟨p, hp, rfl⟩ := List.mem_map.1 hc
  exact this p hp
theorem text_bn {s c : ByteArray} (h : N.textR s c) : U.bn c = U.encs (N.nfcI (U.dec (U.bn s))) := by
  have hsc := nfc_scal _ (dec_scs s)
  obtain ⟨r, h | h⟩ := h
  · exact h.2.2
  · rw [List.all_eq_true.2 hsc] at h; exact absurd h.1 (by simp)
/-- What is put together looks alike. -/
theorem text_sk {s c : ByteArray} (hs : s.size ≤ 600) (h : N.textR s c) : sk c = sk s ∧ Fit c := by
  have hsc := nfc_scal _ (dec_scs s)
  have e0 : U.bn c = U.encs (N.nfcI (U.dec (U.bn s))) := by
    obtain ⟨r, h | h⟩ := h
    · exact h.2.2
    · rw [List.all_eq_true.2 hsc] at h; exact absurd h.1 (by simp)
  have e1 : U.dec (U.bn c) = N.nfcI (U.dec (U.bn s)) := by rw [e0]; exact encs_scal hsc
  have h1 := nfd_len (U.bn_bytes s)
  rw [U.bn_length] at h1
  have h2 := N.nfcI_len (U.dec (U.bn s))
  have h3 := U.encs_len (N.nfcI (U.dec (U.bn s)))
  rw [← e0, U.bn_length] at h3
  refine ⟨by unfold sk; rw [e1]; exact skl_nfc _, by omega, ?_⟩
  rw [e1, N.nfd_nfc]; omega
/-- Whether two look alike, as a letter tells. -/
structure Says (s t : ByteArray) (b : Bool) : Prop where
  out : decide (sk s = sk t) = b
structure FitS (s : ByteArray) : Prop where
  out : Fit s
/-- Alike, where the answer is known. -/
theorem Ctr.says (C : Ctr) {s t : ByteArray} (hs : Fit s) (ht : Fit t) {b : Bool} (h : decide (sk s = sk t) = b) (W : World) : Calls Tryd.prog 13 #[.string s, .string t] W fun e W' => e = .returned (.bool b) ∧ Below W.heap.size W W' := by
  rw [← h]; exact C.alike s t W hs ht
set_option maxRecDepth 100000 in
set_option maxHeartbeats 16000000 in
theorem alike_walk (C : Ctr) (s t u : ByteArray) (w : World) (hN : Nms w) (hs : s.size ≤ maxLen) (ht : t.size ≤ maxLen) (hu : u.size ≤ maxLen) :
    Calls Tryd.prog 5 #[.string s, .string t, .string u] w fun e W' => e = .returned (.bool true) ∧ Below w.heap.size w W' := by
  unfold maxLen at hs ht hu
  have HW : Hid (∀ W, Below w.heap.size w W → Calls Tryd.prog 8 #[] W fun e W' => e = .returned (.bool true) ∧ Below W.heap.size W W') := fun W hB => C.works W (hN.below hB (Nat.le_refl _))
  clear hN
  by_cases h1 : 600 < s.size
  · go_enter Tryd.func5, Tryd.ntmps5
    go_wp2_with (go_at_call 8; refine (HW.out _ (Below.refl _ _)).mono ?_; rintro e w1 ⟨rfl, B1⟩)
    go_ret
    exact ⟨rfl, B1⟩
  by_cases h2 : 600 < t.size
  · have h1z : (s.size : Int) ≤ 600 := by omega
    go_enter Tryd.func5, Tryd.ntmps5
    go_wp2_with (go_at_call 8; refine (HW.out _ (Below.refl _ _)).mono ?_; rintro e w1 ⟨rfl, B1⟩)
    go_ret
    exact ⟨rfl, B1⟩
  by_cases h3 : 600 < u.size
  · have h1z : (s.size : Int) ≤ 600 := by omega
    have h2z : (t.size : Int) ≤ 600 := by omega
    go_enter Tryd.func5, Tryd.ntmps5
    go_wp2_with (go_at_call 8; refine (HW.out _ (Below.refl _ _)).mono ?_; rintro e w1 ⟨rfl, B1⟩)
    go_ret
    exact ⟨rfl, B1⟩
  have h1z : (s.size : Int) ≤ 600 := by omega
  have h2z : (t.size : Int) ≤ 600 := by omega
  have h3z : (u.size : Int) ≤ 600 := by omega
  have fs : FitS s := ⟨fit_small (by omega)⟩
  have ft : FitS t := ⟨fit_small (by omega)⟩
  have fu : FitS u := ⟨fit_small (by omega)⟩
  have HTX := hid N.rtext_any
  have HCS := hid (fun (c : ByteArray) (h : N.textR s c) => text_sk (by omega) h)
  have HCT := hid (fun (c : ByteArray) (h : N.textR t c) => text_sk (by omega) h)
  have HAL : Hid (∀ (p q : ByteArray) (b : Bool) (W : World), FitS p → FitS q → Says p q b → Calls Tryd.prog 13 #[.string p, .string q] W fun e W' => e = .returned (.bool b) ∧ Below W.heap.size W W') := fun p q b W hp hq h => C.says hp.out hq.out h.out W
  have HB : Hid (Below w.heap.size w w) := Below.refl _ _
  have Hss : Says s s true := ⟨decide_eq_true rfl⟩
  obtain ⟨b1, hb1⟩ : ∃ b, decide (sk s = sk t) = b := ⟨_, rfl⟩
  obtain ⟨b2, hb2⟩ : ∃ b, decide (sk t = sk u) = b := ⟨_, rfl⟩
  obtain ⟨b3, hb3⟩ : ∃ b, decide (sk s = sk u) = b := ⟨_, rfl⟩
  have hb1' : decide (sk t = sk s) = b1 := by rw [← hb1]; exact decide_eq_decide.2 ⟨Eq.symm, Eq.symm⟩
  obtain ⟨E, hE⟩ : ∃ E, decide (U.encs (N.nfcI (U.dec (U.bn s))) = U.encs (N.nfcI (U.dec (U.bn t)))) = E := ⟨_, rfl⟩
  have HCD : Hid (∀ c d, N.textR s c → N.textR t d → (c.toList == d.toList) = E) := fun c d hc hd => by
    rw [U.str_eq_bn, text_bn hc, text_bn hd, hE]
  have HEB : Hid (E = true → b1 = true) := fun e => by
    rw [e] at hE
    rw [← hb1]
    have h1 := of_decide_eq_true hE
    have h2 : N.nfcI (U.dec (U.bn s)) = N.nfcI (U.dec (U.bn t)) := by
      rw [← encs_scal (nfc_scal _ (dec_scs s)), h1, encs_scal (nfc_scal _ (dec_scs t))]
    exact decide_eq_true (skl_of_nfc h2)
  have H3 : Hid (b1 = true → b2 = true → b3 = true) := fun x y => by
    rw [← hb3]
    rw [x] at hb1
    rw [y] at hb2
    exact decide_eq_true ((of_decide_eq_true hb1).trans (of_decide_eq_true hb2))
  have Hst : Says s t b1 := ⟨hb1⟩
  have Hts : Says t s b1 := ⟨hb1'⟩
  have Htu : Says t u b2 := ⟨hb2⟩
  have Hsu : Says s u b3 := ⟨hb3⟩
  clear C hb1 hb1' hb2 hb3 HCT hE
  cases b1 with
  | false =>
    cases E with
    | true => exact absurd (HEB.out rfl) (by simp)
    | false =>
      clear HEB H3 Htu Hsu
      go_enter Tryd.func5, Tryd.ntmps5
      go_wp2_with (first
        | (go_at_call 13; refine (HAL.out _ _ _ _ (by assumption) (by assumption) (by assumption)).mono ?_; rintro e w' ⟨rfl, B⟩; replace HB := hid (HB.out.trans (B.mono HB.out.size)); clear B)
        | (go_at_call 19; have HcS' := HcS.out; refine (HTX.out _ _ (by omega)).mono ?_; rintro e w' ⟨⟨d, rfl, hd⟩, B⟩; have hcd := HCD.out _ d HcS' hd; replace HB := hid (HB.out.trans (B.mono HB.out.size)); clear B hd HcS')
        | (go_at_call 19; refine (HTX.out _ _ (by omega)).mono ?_; rintro e w' ⟨⟨c, rfl, hc⟩, B⟩; have HcS := hid hc; have fc : FitS c := ⟨(HCS.out c hc).2⟩; have Hsc : Says s c true := ⟨decide_eq_true (HCS.out c hc).1.symm⟩; replace HB := hid (HB.out.trans (B.mono HB.out.size)); clear B hc)
        | (go_at_call 8; refine (HW.out _ HB.out).mono ?_; rintro e w' ⟨rfl, B⟩; replace HB := hid (HB.out.trans (B.mono HB.out.size)); clear B))
      go_ret
      exact ⟨rfl, HB.out⟩
  | true =>
    cases b2 with
    | false =>
      clear HEB H3 Hsu
      cases E with
      | true =>
        go_enter Tryd.func5, Tryd.ntmps5
        go_wp2_with (first
          | (go_at_call 13; refine (HAL.out _ _ _ _ (by assumption) (by assumption) (by assumption)).mono ?_; rintro e w' ⟨rfl, B⟩; replace HB := hid (HB.out.trans (B.mono HB.out.size)); clear B)
          | (go_at_call 19; have HcS' := HcS.out; refine (HTX.out _ _ (by omega)).mono ?_; rintro e w' ⟨⟨d, rfl, hd⟩, B⟩; have hcd := HCD.out _ d HcS' hd; replace HB := hid (HB.out.trans (B.mono HB.out.size)); clear B hd HcS')
          | (go_at_call 19; refine (HTX.out _ _ (by omega)).mono ?_; rintro e w' ⟨⟨c, rfl, hc⟩, B⟩; have HcS := hid hc; have fc : FitS c := ⟨(HCS.out c hc).2⟩; have Hsc : Says s c true := ⟨decide_eq_true (HCS.out c hc).1.symm⟩; replace HB := hid (HB.out.trans (B.mono HB.out.size)); clear B hc)
          | (go_at_call 8; refine (HW.out _ HB.out).mono ?_; rintro e w' ⟨rfl, B⟩; replace HB := hid (HB.out.trans (B.mono HB.out.size)); clear B))
        go_ret
        exact ⟨rfl, HB.out⟩
      | false =>
        go_enter Tryd.func5, Tryd.ntmps5
        go_wp2_with (first
          | (go_at_call 13; refine (HAL.out _ _ _ _ (by assumption) (by assumption) (by assumption)).mono ?_; rintro e w' ⟨rfl, B⟩; replace HB := hid (HB.out.trans (B.mono HB.out.size)); clear B)
          | (go_at_call 19; have HcS' := HcS.out; refine (HTX.out _ _ (by omega)).mono ?_; rintro e w' ⟨⟨d, rfl, hd⟩, B⟩; have hcd := HCD.out _ d HcS' hd; replace HB := hid (HB.out.trans (B.mono HB.out.size)); clear B hd HcS')
          | (go_at_call 19; refine (HTX.out _ _ (by omega)).mono ?_; rintro e w' ⟨⟨c, rfl, hc⟩, B⟩; have HcS := hid hc; have fc : FitS c := ⟨(HCS.out c hc).2⟩; have Hsc : Says s c true := ⟨decide_eq_true (HCS.out c hc).1.symm⟩; replace HB := hid (HB.out.trans (B.mono HB.out.size)); clear B hc)
          | (go_at_call 8; refine (HW.out _ HB.out).mono ?_; rintro e w' ⟨rfl, B⟩; replace HB := hid (HB.out.trans (B.mono HB.out.size)); clear B))
        go_ret
        exact ⟨rfl, HB.out⟩
    | true =>
      obtain rfl := H3.out rfl rfl
      clear HEB H3
      cases E with
      | true =>
        go_enter Tryd.func5, Tryd.ntmps5
        go_wp2_with (first
          | (go_at_call 13; refine (HAL.out _ _ _ _ (by assumption) (by assumption) (by assumption)).mono ?_; rintro e w' ⟨rfl, B⟩; replace HB := hid (HB.out.trans (B.mono HB.out.size)); clear B)
          | (go_at_call 19; have HcS' := HcS.out; refine (HTX.out _ _ (by omega)).mono ?_; rintro e w' ⟨⟨d, rfl, hd⟩, B⟩; have hcd := HCD.out _ d HcS' hd; replace HB := hid (HB.out.trans (B.mono HB.out.size)); clear B hd HcS')
          | (go_at_call 19; refine (HTX.out _ _ (by omega)).mono ?_; rintro e w' ⟨⟨c, rfl, hc⟩, B⟩; have HcS := hid hc; have fc : FitS c := ⟨(HCS.out c hc).2⟩; have Hsc : Says s c true := ⟨decide_eq_true (HCS.out c hc).1.symm⟩; replace HB := hid (HB.out.trans (B.mono HB.out.size)); clear B hc)
          | (go_at_call 8; refine (HW.out _ HB.out).mono ?_; rintro e w' ⟨rfl, B⟩; replace HB := hid (HB.out.trans (B.mono HB.out.size)); clear B))
        go_ret
        exact ⟨rfl, HB.out⟩
      | false =>
        go_enter Tryd.func5, Tryd.ntmps5
        go_wp2_with (first
          | (go_at_call 13; refine (HAL.out _ _ _ _ (by assumption) (by assumption) (by assumption)).mono ?_; rintro e w' ⟨rfl, B⟩; replace HB := hid (HB.out.trans (B.mono HB.out.size)); clear B)
          | (go_at_call 19; have HcS' := HcS.out; refine (HTX.out _ _ (by omega)).mono ?_; rintro e w' ⟨⟨d, rfl, hd⟩, B⟩; have hcd := HCD.out _ d HcS' hd; replace HB := hid (HB.out.trans (B.mono HB.out.size)); clear B hd HcS')
          | (go_at_call 19; refine (HTX.out _ _ (by omega)).mono ?_; rintro e w' ⟨⟨c, rfl, hc⟩, B⟩; have HcS := hid hc; have fc : FitS c := ⟨(HCS.out c hc).2⟩; have Hsc : Says s c true := ⟨decide_eq_true (HCS.out c hc).1.symm⟩; replace HB := hid (HB.out.trans (B.mono HB.out.size)); clear B hc)
          | (go_at_call 8; refine (HW.out _ HB.out).mono ?_; rintro e w' ⟨rfl, B⟩; replace HB := hid (HB.out.trans (B.mono HB.out.size)); clear B))
        go_ret
        exact ⟨rfl, HB.out⟩
end Go.Proofs.YtpkegjbmnilmdaaDoor.S
