/- The document's own answer for a text. -/
import Derived.Test.YtcgfbejcehiolaaRE
import Derived.Test.YtcgfbejcehiolaaUQ
import Derived.Test.YtcgfbejcehiolaaUL
namespace Go.Proofs.Ytcgfbejcehiolaa
open Go.RowKit
set_option linter.unusedVariables false

theorem textR_one {s t t' : ByteArray} (h : textR s t) (h' : textR s t') : t' = t := by
  obtain ⟨r, h⟩ := h
  obtain ⟨r', h'⟩ := h'
  rcases h with ⟨h1, _, h2⟩ | ⟨h1, _, h2⟩ <;> rcases h' with ⟨h3, _, h4⟩ | ⟨h3, _, h4⟩
  · exact U.bn_inj (h4.trans h2.symm)
  · rw [h1] at h3; cases h3
  · rw [h1] at h3; cases h3
  · rw [h2, h4]

set_option maxRecDepth 100000 in
set_option maxHeartbeats 1000000 in
theorem rtext_any (s : ByteArray) (w : World) (hs : s.size ≤ 10000) : Calls Try.prog 18 #[.string s] w fun e W' => (∃ t, e = .returned (.string t) ∧ textR s t) ∧ Below w.heap.size w W' := by
  have hdl := U.dec_len _ _ (Nat.le_refl _) (U.bn_bytes s)
  rw [U.bn_length] at hdl
  have hdec := U.refDecode_any s (by omega) w
  have HTR : Hid (∀ t r, U.encQ (nfcI (U.dec (U.bn s))) t r → textR s t) := fun t r h => by
    rcases h with ⟨h1, _, h2⟩ | ⟨h1, _, h2⟩
    · exact ⟨0, .inl ⟨h1, rfl, h2⟩⟩
    · exact ⟨2, .inr ⟨h1, rfl, h2⟩⟩
  generalize U.dec (U.bn s) = L at hdl hdec HTR
  have HD := hid hdec
  have hl1 := nfcI_len L
  have hl2 := nfdI_len L
  clear hdec
  go_enter Try.func18, Try.ntmps18
  go_wp2_with fail
  refine (show Calls _ _ _ _ _ from HD.out).mono ?_
  rintro e w1 ⟨v1, rfl, hr1, hB1⟩
  have hc := rnfc_any v1 L w1 (by omega) (U.IntsAt.own rfl hr1)
  have HC := hid hc
  have HB1 := hid hB1
  clear hc hr1 hB1
  go_wp2_with fail
  refine (show Calls _ _ _ _ _ from HC.out).mono ?_
  rintro e w2 ⟨v2, rfl, hr2, hB2⟩
  have hB12 := HB1.out.trans (hB2.mono HB1.out.size)
  have he := U.refEncode_any v2 (nfcI L) (by omega) w2 (U.IntsAt.own rfl hr2)
  have HE := hid he
  have HB12 := hid hB12
  clear he hr2 hB2 hB12
  go_wp2_with fail
  refine (show Calls _ _ _ _ _ from HE.out).mono ?_
  rintro e w3 ⟨⟨t, r, rfl, ht⟩, hB3⟩
  have HT := hid (HTR.out t r ht)
  clear ht
  go_wp2
  go_ret
  exact ⟨⟨t, rfl, HT.out⟩, HB12.out.trans (hB3.mono HB12.out.size)⟩
end Go.Proofs.Ytcgfbejcehiolaa
