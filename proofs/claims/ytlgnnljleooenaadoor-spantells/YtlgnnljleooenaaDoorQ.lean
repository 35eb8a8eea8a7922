/- The contracts of Count and of the statements' own works. -/
import Derived.Test.YtlgnnljleooenaaDoorO
namespace Go.Proofs.YtlgnnljleooenaaDoor
open Go.RowKit
set_option linter.unusedVariables false

/-- How many code points are in spans that lie apart. -/
def cnt : List Sp → Int
  | [] => 0
  | s :: t => (s.2 - s.1 + 1) + cnt t
theorem cnt_append (a b : List Sp) : cnt (a ++ b) = cnt a + cnt b := by
  induction a with
  | nil => simp [cnt]
  | cons s t ih => simp only [List.cons_append, cnt, ih]; omega
theorem cnt_bd (l : List Sp) (h : l.all ok1 = true) : 0 ≤ cnt l ∧ cnt l ≤ 1114112 * l.length := by
  induction l with
  | nil => simp [cnt]
  | cons s t ih =>
    rw [List.all_cons, Bool.and_eq_true] at h
    have h1 := ok1_true_of s h.1
    have h2 := ih h.2
    simp only [cnt, List.length_cons]
    omega
def CountR (a : List Sp) (n : Int) : Prop := (chk a ≠ 0 ∧ n = 0) ∨ (chk a = 0 ∧ ∃ m, Nf (hasP a) m ∧ n = cnt m)
set_option maxRecDepth 100000 in
set_option maxHeartbeats 1600000 in
theorem count_any (v : Value) (a : List Sp) (hA : a.length ≤ 17179869184) (w : World) (hv : SpansAt w v a) :
    Calls Tryd.prog 23 #[v] w fun e W' => (∃ n, e = .returned (.int .i64 n) ∧ CountR a n) ∧ Below w.heap.size w W' := by
  go_enter Tryd.func23, Tryd.ntmps23
  go_wp2_with fail
  refine (norm_any v a hA w hv).mono ?_
  rintro e w1 ⟨⟨p, cap, m, r, rfl, hN, hS⟩, hB1⟩
  have HN : Hid ((chk a ≠ 0 ∧ m = []) ∨ (chk a = 0 ∧ Nf (hasP a) m)) := by
    rcases hN with ⟨hc, rfl, rfl⟩ | ⟨hc, hnf, hml, rfl⟩
    · exact .inl ⟨hc, rfl⟩
    · exact .inr ⟨hc, hnf⟩
  have hml : m.length ≤ 1024 ∧ m.all ok1 = true := by
    rcases hN with ⟨hc, rfl, rfl⟩ | ⟨hc, hnf, hml, rfl⟩
    · simp
    · obtain ⟨hal, haok⟩ := chk_zero hc
      exact ⟨by omega, hnf.ok (fits_has haok)⟩
  obtain ⟨hm9, hok⟩ := hml
  have HOK := hid' hok
  clear hN hok
  obtain ⟨a', cap', e', -, hs⟩ := hS
  simp only [Value.slice.injEq] at e'
  obtain ⟨rfl, -, rfl⟩ := e'
  go_wp2_with fail
  go_loopw [5, 15] (fun n i wr => ∃ (k : Nat) (N : Int), k ≤ m.length ∧ n = .int .i64 N ∧ i = .int .i64 k ∧ Hid (N = cnt (m.take k)) ∧ 0 ≤ N ∧ N ≤ 1114112 * k ∧ Below w1.heap.size w1 wr)
    (fun _ i _ => m.length - (intOf i).toNat)
  case atStart => exact ⟨0, 0, Nat.zero_le _, rfl, rfl, rfl, by omega, by omega, Below.refl _ _⟩
  case round =>
    obtain ⟨k, N, hk, rfl, rfl, HNk, hN0, hN1, hB⟩ := hrel
    by_cases hlt : k < m.length
    · obtain ⟨b, off, rfl, hc⟩ := hs (by omega)
      obtain ⟨x, y, HX, c1, c2, hb⟩ := SpansAt.elem (cap := cap) hlt hB hc
      have hxy := ok1_true_of (x, y) (by rw [← HX.out, List.getElem?_eq_getElem hlt]; exact List.all_eq_true.1 HOK.out _ (List.getElem_mem hlt))
      obtain ⟨h1, h2, h3⟩ := hxy
      dsimp only at h1 h2 h3
      have HS : Hid (N + (y - x + 1) = cnt (m.take (k + 1))) := by
        show _ = _
        rw [take_snoc m (0, 0) k hlt, cnt_append, HX.out, ← HNk.out]; simp [cnt]
      have w1' : IntKind.i32.wrap (y - x) = y - x := by simp [IntKind.wrap, IntKind.bits, IntKind.signed]; omega
      have w2' : IntKind.i64.wrap (y - x) = y - x := by simp [IntKind.wrap, IntKind.bits, IntKind.signed]; omega
      clear hc hs HNk
      go_wp2
      go_roundw
      case rel => exact ⟨k + 1, N + (y - x + 1), by omega, by go_num, by go_num, HS, by omega, by omega, hB.alloc hB.size _⟩
      case measure => simp [intOf]; omega
    · have hkk : k = m.length := by omega
      have HF : Hid (N = cnt m) := by have := HNk.out; rwa [hkk, List.take_length] at this
      clear hkk hs HNk
      go_wp2
      go_ret
      refine ⟨⟨N, rfl, ?_⟩, hB1.trans (hB.mono hB1.size)⟩
      rcases HN.out with ⟨hc, hm⟩ | ⟨hc, hm⟩
      · exact .inl ⟨hc, by rw [HF.out, hm]; rfl⟩
      · exact .inr ⟨hc, m, hm, HF.out⟩
theorem bn_inj {s t : ByteArray} (h : bn s = bn t) : s = t := by
  unfold bn at h
  have h2 : s.data.toList = t.data.toList := by
    have : ∀ (a b : List UInt8), a.map (fun c => (c.toNat : Int)) = b.map (fun c => (c.toNat : Int)) → a = b := by
      intro a
      induction a with
      | nil => intro b hb; cases b with | nil => rfl | cons _ _ => simp at hb
      | cons x a ih =>
        intro b hb
        cases b with
        | nil => simp at hb
        | cons y b =>
          simp only [List.map_cons, List.cons.injEq] at hb
          have h1 : x = y := UInt8.toNat_inj.1 (by omega)
          rw [h1, ih b hb.2]
    exact this _ _ h
  have h3 : s.data = t.data := Array.toList_inj.1 h2
  cases s; cases t; simp only at h3; rw [h3]

theorem SpansAt.new3 (w : World) (a b c d e f : Int) : SpansAt (w.alloc (.cells #[.int .i32 a, .int .i32 b, .int .i32 c, .int .i32 d, .int .i32 e, .int .i32 f] 44)) (.slice (some ⟨w.heap.size, 0, none⟩) 3 3) [(a, b), (c, d), (e, f)] := by
  refine ⟨_, 3, rfl, (fun e => by cases e), fun _ => ⟨_, 0, rfl, fun j hj => ?_⟩⟩
  have hj' : j < 3 := hj
  have h := news_at w 44 [.int .i32 a, .int .i32 b, .int .i32 c, .int .i32 d, .int .i32 e, .int .i32 f]
  have h0 := h 0 _ rfl
  have h1 := h 1 _ rfl
  have h2 := h 2 _ rfl
  have h3 := h 3 _ rfl
  have h4 := h 4 _ rfl
  have h5 := h 5 _ rfl
  rw [addr_add] at h0 h1 h2 h3 h4 h5
  rcases j with _ | _ | _ | j
  · exact ⟨h0, h1⟩
  · exact ⟨h2, h3⟩
  · exact ⟨h4, h5⟩
  · omega
theorem nf_a : Nf (hasP [(99, 102), (97, 98), (101, 104)]) [(97, 104)] := by
  refine ⟨[97, 105], 1, ⟨by simp, fun x => ?_⟩, rfl, rfl⟩
  simp only [inE, hasP, List.any_cons, List.any_nil, Bool.or_false, Bool.xor_false]
  by_cases h1 : 97 ≤ x <;> by_cases h2 : 105 ≤ x <;> simp [h1, h2] <;> omega
theorem nf_b : Nf (hasP [(97, 104)]) [(97, 104)] := by
  refine ⟨[97, 105], 1, ⟨by simp, fun x => ?_⟩, rfl, rfl⟩
  simp only [inE, hasP, List.any_cons, List.any_nil, Bool.or_false, Bool.xor_false]
  by_cases h1 : 97 ≤ x <;> by_cases h2 : 105 ≤ x <;> simp [h1, h2] <;> omega
theorem nf_q : Nf (hasP [(97, 97), (99, 122)]) [(97, 97), (99, 122)] := by
  refine ⟨[97, 98, 99, 123], 2, ⟨by simp, fun x => ?_⟩, rfl, rfl⟩
  simp only [inE, hasP, List.any_cons, List.any_nil, Bool.or_false, Bool.xor_false]
  by_cases h1 : 97 ≤ x <;> by_cases h2 : 98 ≤ x <;> by_cases h3 : 99 ≤ x <;> by_cases h4 : 123 ≤ x <;> simp [h1, h2, h3, h4] <;> omega

set_option maxRecDepth 100000 in
set_option maxHeartbeats 3200000 in
theorem works_any (w : World) (hT : Tab w) : Calls Tryd.prog 9 #[] w fun e W' => e = .returned (.bool true) ∧ Below w.heap.size w W' := by
  have hal : ∀ o, Below w.heap.size w (w.alloc o) := fun o => (Below.refl _ w).alloc (Nat.le_refl _) o
  go_enter Tryd.func9, Tryd.ntmps9
  go_wp2_with fail
  refine (norm_any _ [(99, 102), (97, 98), (101, 104)] (by simp) _ (SpansAt.new3 w _ _ _ _ _ _)).mono ?_
  rintro e w1 ⟨⟨p, cap, m, r, rfl, hN, hS⟩, hb⟩
  have hB1 : Below w.heap.size w w1 := (hal _).trans (hb.mono (by simp))
  rcases hN with ⟨hc, _⟩ | ⟨hc, hnf, hml, rfl⟩
  · exact absurd (by decide) hc
  obtain rfl := hnf.unique nf_a
  clear hb hc hnf hml hal
  simp only [List.length_cons, List.length_nil, Nat.reduceAdd] at hS ⊢
  go_wp2_with fail
  refine (text_any _ [(97, 104)] (by simp) _ (hT.below hB1 (Nat.le_refl _)) hS).mono ?_
  rintro e w2 ⟨⟨t, r, rfl, hR⟩, hb2⟩
  have hB2 : Below w.heap.size w w2 := hB1.trans (hb2.mono hB1.size)
  rcases hR with ⟨hc, _⟩ | ⟨hc, rfl, m, hnf, _, hbn⟩
  · exact absurd (by decide) hc
  obtain rfl := hnf.unique nf_b
  obtain rfl : t = ⟨#[54, 49, 45, 54, 56]⟩ := bn_inj (by rw [hbn]; decide)
  clear hbn hnf hc hb2 hS
  go_wp2_with fail
  refine (parse_any _ (by decide) _).mono ?_
  rw [show parse (bn ⟨#[54, 49, 44, 54, 50]⟩) = ([], 3, 8) by decide]
  rintro e w3 ⟨⟨p3, k3, rfl, hS3⟩, hb3⟩
  have hB3 : Below w.heap.size w w3 := hB2.trans (hb3.mono hB2.size)
  clear hb3 hS3
  simp only [List.length_nil] at *
  go_wp2_with fail
  refine (parse_any _ (by decide) _).mono ?_
  rw [show parse (bn ⟨#[54, 49, 44, 54, 51, 45, 55, 97]⟩) = ([(97, 97), (99, 122)], 0, 0) by decide]
  rintro e w4 ⟨⟨p4, k4, rfl, hS4⟩, hb4⟩
  have hB4 : Below w.heap.size w w4 := hB3.trans (hb4.mono hB3.size)
  simp only [List.length_cons, List.length_nil, Nat.reduceAdd] at hS4 ⊢
  clear hb4
  go_wp2_with fail
  refine (has_any _ [(97, 97), (99, 122)] 100 (by simp) _ hS4).mono ?_
  rw [show hasA [(97, 97), (99, 122)] 100 = true by decide]
  rintro e w5 ⟨rfl, hb5⟩
  have hB5 : Below w.heap.size w w5 := hB4.trans (hb5.mono hB4.size)
  have hS5 := hS4.below hb5 (Nat.le_refl _)
  clear hb5
  go_wp2_with fail
  refine (has_any _ [(97, 97), (99, 122)] 98 (by simp) _ hS5).mono ?_
  rw [show hasA [(97, 97), (99, 122)] 98 = false by decide]
  rintro e w6 ⟨rfl, hb6⟩
  have hB6 : Below w.heap.size w w6 := hB5.trans (hb6.mono hB5.size)
  have hS6 := hS5.below hb6 (Nat.le_refl _)
  clear hb6
  go_wp2_with fail
  refine (count_any _ [(97, 97), (99, 122)] (by simp) _ hS6).mono ?_
  rintro e w7 ⟨⟨n, rfl, hR⟩, hb7⟩
  have hB7 : Below w.heap.size w w7 := hB6.trans (hb7.mono hB6.size)
  rcases hR with ⟨hc, _⟩ | ⟨hc, m, hnf, rfl⟩
  · exact absurd (by decide) hc
  obtain rfl := hnf.unique nf_q
  clear hnf hc hb7 hS4 hS5 hS6
  have h25 : cnt [(97, 97), (99, 122)] = 25 := by decide
  rw [h25]
  go_wp2
  go_ret
  exact ⟨rfl, hB7⟩
end Go.Proofs.YtlgnnljleooenaaDoor
