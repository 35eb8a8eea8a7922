/- alive. (Stage 19.) -/
import Derived.Test.YtacbfbhhhofifaaDoorHLA
namespace Go.Proofs.YtacbfbhhhofifaaDoor.Hd
open Go.RowKit
open Go.Proofs.YtacbfbhhhofifaaDoor.F (bn bn_length bn_append bn_inj bn_get byte_bd hid bn_extract isEmpty_false isEmpty_true str_eq same_eq)
set_option linter.unusedVariables false

abbrev tA : ByteArray := ⟨#[71, 69, 84, 32, 104, 116, 116, 112, 58, 47, 47, 97, 47, 32, 72, 84, 84, 80, 47, 49, 46, 49, 13, 10, 72, 111, 115, 116, 58, 32]⟩
abbrev tB : ByteArray := ⟨#[32, 97, 32, 13, 10, 13, 10, 109, 111, 114, 101]⟩
def tT : List Int := bn tA ++ (bn tB).take 7
theorem nil_over : ¬ overS [] := by unfold overS; simp [go, s0]
set_option maxRecDepth 100000 in
theorem a1 : (go s0 (bn tA)).n = 30 ∧ (go s0 (bn tA)).d = false ∧ (go s0 (bn tA)).e = 0 := ⟨by kernel_rfl, by kernel_rfl, by kernel_rfl⟩
set_option maxRecDepth 100000 in
theorem a2 : (go s0 (bn tA ++ bn tB)).n = 37 ∧ (go s0 (bn tA ++ bn tB)).d = true ∧ (go s0 (bn tA ++ bn tB)).e = 0 := ⟨by kernel_rfl, by kernel_rfl, by kernel_rfl⟩
def hT : H := ⟨[71, 69, 84], [104, 116, 116, 112, 58, 47, 47, 97, 47], 1, [([104, 111, 115, 116], [97])]⟩
set_option maxRecDepth 100000 in
theorem a3 : (go s0 tT).d = true ∧ (go s0 tT).h = hT := ⟨by kernel_rfl, by kernel_rfl⟩
set_option maxRecDepth 100000 in
theorem p1 : (go s0 (bn ⟨#[71, 69, 84, 32, 32, 47, 32, 72, 84, 84, 80, 47, 49, 46, 49, 13, 10]⟩)).e = 190 := by kernel_rfl
set_option maxRecDepth 100000 in
theorem p2 : (go s0 (bn ⟨#[71, 69, 84, 32, 47, 32, 72, 84, 84, 80, 47, 49, 46, 49, 13, 10, 97, 32, 98, 58, 32, 99, 13, 10]⟩)).e = 193 := by kernel_rfl
set_option maxRecDepth 100000 in
theorem f1 {e : Ending} (h : FeR [] (bn tA) e) : e = .returned (.tuple #[.int .i64 30, .bool false, .int .i64 0]) ∧ took [] (bn tA) = bn tA := by
  unfold FeR took at *
  rw [if_neg nil_over] at *
  rw [List.nil_append, a1.1, a1.2.1, a1.2.2] at h
  rw [List.nil_append, a1.1]
  exact ⟨h, by kernel_rfl⟩
set_option maxRecDepth 100000 in
theorem f2 {e : Ending} (h : FeR (bn tA) (bn tB) e) : e = .returned (.tuple #[.int .i64 7, .bool true, .int .i64 0]) ∧ took (bn tA) (bn tB) = tT := by
  have hn : ¬ overS (bn tA) := by unfold overS; rw [a1.2.1, a1.2.2]; simp
  unfold FeR took at *
  rw [if_neg hn] at *
  rw [a2.1, a2.2.1, a2.2.2] at h
  rw [a2.1]
  exact ⟨h, by kernel_rfl⟩
theorem over3 : overS tT := .inl a3.1
theorem f3 {m : List Int} {e : Ending} (h : FeR tT m e) : e = .returned (.tuple #[.int .i64 0, .bool false, .int .i64 3]) := by
  unfold FeR at h
  rw [if_pos over3, if_pos a3.1] at h
  exact h
theorem q1 {e : Ending} {s : ByteArray} {W : World} {k : Nat} (hk : k ≠ 0) (hs : (go s0 (bn s)).e = k) (h : PaR s W e) : ∃ M T v a n cap, e = .returned (.tuple #[.agg #[.string M, .string T, .int .u8 v, .slice a n cap], .int .i64 (go s0 (bn s)).n, .int .i64 k]) := by
  obtain ⟨hv, he, M, T, v, F, fs, rfl, ⟨a, cap, rfl, _⟩, _⟩ := h
  have hn : ¬ ((go s0 (bn s)).e = 0 ∧ (go s0 (bn s)).d = false) := fun h => hk (hs.symm.trans h.1)
  rw [if_neg hn, if_neg hn, hs] at he
  exact ⟨M, T, v, a, _, cap, he⟩
/-- The head that is told of a text. -/
theorem hd_parts {W : World} {hv : Value} (h : HdIs W hv hT) : ∃ b off cap, hv = .agg #[.string ⟨#[71, 69, 84]⟩, .string ⟨#[104, 116, 116, 112, 58, 47, 47, 97, 47]⟩, .int .u8 1, .slice (some ⟨b, off, none⟩) 1 cap] ∧ FldAt W (.slice (some ⟨b, off, none⟩) 1 cap) [⟨⟨#[104, 111, 115, 116]⟩, ⟨#[97]⟩⟩] := by
  obtain ⟨M, T, v, F, fs, rfl, hf, _, _, _, he⟩ := h
  unfold hT at he
  injection he with h1 h2 h3 h4
  have e1 : M = ⟨#[71, 69, 84]⟩ := bn_inj (h1.symm.trans (by rfl))
  have e2 : T = ⟨#[104, 116, 116, 112, 58, 47, 47, 97, 47]⟩ := bn_inj (h2.symm.trans (by rfl))
  rcases fs with _ | ⟨⟨x, y⟩, _ | ⟨z, fs⟩⟩
  · simp at h4
  · simp only [List.map_cons, List.map_nil, Fb.f, List.cons.injEq, Prod.mk.injEq, and_true] at h4
    have e3 : x = ⟨#[104, 111, 115, 116]⟩ := bn_inj (h4.1.symm.trans (by rfl))
    have e4 : y = ⟨#[97]⟩ := bn_inj (h4.2.symm.trans (by rfl))
    subst e1; subst e2; subst e3; subst e4; subst h3
    obtain ⟨a, cap, rfl, h0, hc⟩ := id hf
    obtain ⟨b, off, rfl, _⟩ := hc (by simp)
    exact ⟨b, off, cap, rfl, hf⟩
  · simp at h4
set_option maxRecDepth 100000 in
set_option maxHeartbeats 8000000 in
theorem alive_any {Rd : Nat → World → Value → List Int → Prop} (C : Ctr Rd) (w : World) : Calls Tryd.prog 7 #[] w fun e W' => e = .returned (.bool true) ∧ Below w.heap.size w W' := by
  have HC := hid C
  go_enter Tryd.func7, Tryd.ntmps7
  go_wp2_with fail
  refine (HC.out.new _).mono ?_
  rintro e w1 ⟨⟨a, rfl, hR⟩, hB⟩
  have HR1 := hid hR
  have HB1 := hid hB
  clear hR hB
  go_wp2_with fail
  refine (HC.out.feed _ _ _ [] tA HR1.out (by simp) (by decide)).mono ?_
  rintro e w2 ⟨hf, hR, hB, _⟩
  obtain ⟨rfl, et⟩ := f1 hf
  rw [et] at hR
  have HR2 := hid hR
  have HB2 := hid (HB1.out.trans hB)
  clear hR hB hf et HR1 HB1
  go_wp2_with fail
  refine (HC.out.feed _ _ _ (bn tA) tB HR2.out (by rw [bn_length]; decide) (by decide)).mono ?_
  rintro e w3 ⟨hf, hR, hB, _⟩
  obtain ⟨rfl, et⟩ := f2 hf
  rw [et] at hR
  have HR3 := hid hR
  have HB3 := hid (HB2.out.trans hB)
  clear hR hB hf et HR2 HB2
  go_wp2_with fail
  refine (HC.out.head _ _ _ tT HR3.out).mono ?_
  rintro e w4 ⟨⟨hv, rfl, hh⟩, hR, hB⟩
  rw [if_pos a3.1, a3.2] at hh
  obtain ⟨b, off, cap, rfl, hfa⟩ := hd_parts hh
  have HR4 := hid hR
  have HB4 := hid (HB3.out.trans (hB.mono (HC.out.base _ _ _ _ HR3.out)))
  have HFA := hid hfa
  have hwb := HC.out.base _ _ _ _ HR4.out
  clear hR hB hfa hh HR3 HB3
  go_wp2_with fail
  have HRA := hid (HC.out.keep _ _ _ _ _ HR4.out ((Below.refl _ w4).alloc (Nat.le_refl _) (.cells #[.string ⟨#[71, 69, 84]⟩, .string ⟨#[104, 116, 116, 112, 58, 47, 47, 97, 47]⟩, .int .u8 1, .slice (some ⟨b, off, none⟩) 1 cap] 27)))
  refine (HC.out.feed _ _ _ tT ⟨#[120]⟩ HRA.out (by decide) (by decide)).mono ?_
  rintro e w5 ⟨hf, _, _, hB⟩
  have hB := hB over3
  obtain rfl := f3 hf
  have HR5 := hid (kept (heap_alloc_last w4 (.cells #[.string ⟨#[71, 69, 84]⟩, .string ⟨#[104, 116, 116, 112, 58, 47, 47, 97, 47]⟩, .int .u8 1, .slice (some ⟨b, off, none⟩) 1 cap] 27)) hB)
  have B45 : Below w4.heap.size w4 w5 := ((Below.refl _ w4).alloc (Nat.le_refl _) (.cells #[.string ⟨#[71, 69, 84]⟩, .string ⟨#[104, 116, 116, 112, 58, 47, 47, 97, 47]⟩, .int .u8 1, .slice (some ⟨b, off, none⟩) 1 cap] 27)).trans (hB.mono (by simp))
  have HB5 := hid (HB4.out.trans (B45.mono hwb))
  have HF5 := hid (HFA.out.below B45)
  have hw5 : w.heap.size ≤ w5.heap.size := Nat.le_trans hwb B45.size
  clear hB hf HRA HFA HB4 HR4 B45 hwb
  go_wp2_with fail
  refine (HC.out.parse ⟨#[71, 69, 84, 32, 32, 47, 32, 72, 84, 84, 80, 47, 49, 46, 49, 13, 10]⟩ _ (by decide)).mono ?_
  rintro e w6 ⟨hp, hB⟩
  obtain ⟨M1, T1, v1, a1, n1, c1, rfl⟩ := q1 (by decide) p1 hp
  obtain ⟨k1, hk1⟩ : ∃ k : Nat, (go s0 (bn ⟨#[71, 69, 84, 32, 32, 47, 32, 72, 84, 84, 80, 47, 49, 46, 49, 13, 10]⟩)).n = k := ⟨_, rfl⟩
  rw [hk1]
  have HR6 := hid (kept HR5.out hB)
  have HB6 := hid (HB5.out.trans (hB.mono hw5))
  have HF6 := hid (HF5.out.below hB)
  have hw6 : w.heap.size ≤ w6.heap.size := Nat.le_trans hw5 hB.size
  clear hB hp hk1 HR5 HB5 HF5
  go_wp2_with fail
  refine (HC.out.parse ⟨#[71, 69, 84, 32, 47, 32, 72, 84, 84, 80, 47, 49, 46, 49, 13, 10, 97, 32, 98, 58, 32, 99, 13, 10]⟩ _ (by decide)).mono ?_
  rintro e w7 ⟨hp, hB⟩
  obtain ⟨M2, T2, v2, a2, n2, c2, rfl⟩ := q1 (by decide) p2 hp
  obtain ⟨k2, hk2⟩ : ∃ k : Nat, (go s0 (bn ⟨#[71, 69, 84, 32, 47, 32, 72, 84, 84, 80, 47, 49, 46, 49, 13, 10, 97, 32, 98, 58, 32, 99, 13, 10]⟩)).n = k := ⟨_, rfl⟩
  rw [hk2]
  have HR7 := hid (kept (kept HR6.out ((Below.refl _ w6).alloc (Nat.le_refl _) _)) hB)
  have HB7 := hid ((HB6.out.alloc hw6 _).trans (hB.mono (by simp; omega)))
  have HF7 := hid ((HF6.out.below ((Below.refl _ w6).alloc (Nat.le_refl _) _)).below hB)
  have hw7 : w.heap.size ≤ w7.heap.size := Nat.le_trans hw6 (Nat.le_trans (by simp) hB.size)
  clear hB hp hk2 HR6 HB6 HF6
  have k0 := cell_of_row _ _ 0 _ _ _ (kept HR7.out ((Below.refl _ w7).alloc (Nat.le_refl _) (.cells #[.string M2, .string T2, .int .u8 v2, .slice a2 n2 c2] 27)))
  have k1' := cell_of_row _ _ 1 _ _ _ (kept HR7.out ((Below.refl _ w7).alloc (Nat.le_refl _) (.cells #[.string M2, .string T2, .int .u8 v2, .slice a2 n2 c2] 27)))
  have k2' := cell_of_row _ _ 2 _ _ _ (kept HR7.out ((Below.refl _ w7).alloc (Nat.le_refl _) (.cells #[.string M2, .string T2, .int .u8 v2, .slice a2 n2 c2] 27)))
  have k3 := cell_of_row _ _ 3 _ _ _ (kept HR7.out ((Below.refl _ w7).alloc (Nat.le_refl _) (.cells #[.string M2, .string T2, .int .u8 v2, .slice a2 n2 c2] 27)))
  simp only [List.getElem?_toArray, List.getElem?_cons_succ, List.getElem?_cons_zero] at k0 k1' k2' k3
  obtain ⟨c0, c1'⟩ := (HF7.out.below ((Below.refl _ w7).alloc (Nat.le_refl _) (.cells #[.string M2, .string T2, .int .u8 v2, .slice a2 n2 c2] 27))).cell (j := 0) (by simp)
  simp only [List.getElem?_cons_zero, Option.getD_some, Nat.zero_mul, Nat.add_zero] at c0 c1'
  have heq := eql_fld ⟨⟨#[104, 111, 115, 116]⟩, ⟨#[97]⟩⟩ ⟨⟨#[104, 111, 115, 116]⟩, ⟨#[97]⟩⟩
  have hef : eqf ⟨⟨#[104, 111, 115, 116]⟩, ⟨#[97]⟩⟩ ⟨⟨#[104, 111, 115, 116]⟩, ⟨#[97]⟩⟩ = true := eqf_iff.2 rfl
  rw [hef] at heq
  unfold tcs at heq
  simp only at heq
  have HBF := hid (HB7.out.alloc hw7 (.cells #[.string M2, .string T2, .int .u8 v2, .slice a2 n2 c2] 27))
  clear hef HF7 HB7 HR7
  go_wp2
  go_ret
  exact ⟨rfl, HBF.out⟩
set_option maxRecDepth 100000 in
set_option maxHeartbeats 8000000 in
theorem nil_walk {Rd : Nat → World → Value → List Int → Prop} (C : Ctr Rd) (s : ByteArray) (w : World) : Calls Tryd.prog 6 #[.string s] w fun e W' => e = .returned (.bool true) ∧ Below w.heap.size w W' := by
  have HC := hid C
  go_enter Tryd.func6, Tryd.ntmps6
  go_wp2_with fail
  refine (HC.out.feed0 s _).mono ?_
  rintro e w1 ⟨rfl, hB⟩
  have HB1 := hid hB
  have hw1 := hB.size
  clear hB
  go_wp2_with fail
  refine (HC.out.bytes0 _).mono ?_
  rintro e w2 ⟨rfl, hB⟩
  have HB2 := hid (HB1.out.trans (hB.mono hw1))
  have hw2 : w.heap.size ≤ w2.heap.size := Nat.le_trans hw1 hB.size
  clear hB HB1
  go_wp2_with fail
  refine (HC.out.head0 _).mono ?_
  rintro e w3 ⟨⟨hv, rfl, hh⟩, hB⟩
  have HB3 := hid (HB2.out.trans (hB.mono hw2))
  have hw3 : w.heap.size ≤ w3.heap.size := Nat.le_trans hw2 hB.size
  have HH := hid hh
  clear hB HB2 hh
  go_wp2_with fail
  refine (rsame_any hv _ h0 h0 _ HH.out (HdIs.zero _)).mono ?_
  rintro e w4 ⟨⟨r, rfl, hr⟩, hB⟩
  obtain rfl := hr.2 rfl
  have HB4 := hid (HB3.out.trans (hB.mono hw3))
  have hw4 : w.heap.size ≤ w4.heap.size := Nat.le_trans hw3 hB.size
  clear hB hr HH HB3
  go_wp2_with fail
  refine (alive_any HC.out _).mono ?_
  rintro e w5 ⟨rfl, hB⟩
  have HB5 := hid (HB4.out.trans (hB.mono hw4))
  clear hB HB4
  go_wp2
  go_ret
  exact ⟨rfl, HB5.out⟩
end Go.Proofs.YtacbfbhhhofifaaDoor.Hd
