/- The contracts of copied, Same and works. -/
import Derived.Test.YtcgfbejcehiolaaCC
import Derived.Test.YtcgfbejcehiolaaUH
namespace Go.Proofs.Ytcgfbejcehiolaa
open Go.RowKit
set_option linter.unusedVariables false

theorem u_ints {W : World} {v : Value} {zs : List Int} (h : Row21 W v zs) : U.IntsAt W v zs := by
  obtain ⟨a, cap, rfl, hf⟩ := h
  by_cases h0 : zs.length = 0
  · exact .inl ⟨List.length_eq_zero_iff.1 h0, a, cap, by rw [h0]⟩
  · obtain ⟨b, cur, rfl, hg, hc⟩ := hf (by omega)
    exact .inr ⟨by omega, b, 0, cap, rfl, fun j hj => by rw [Nat.zero_add]; simp [World.cell?, hg, hc j hj]⟩

set_option maxRecDepth 100000 in
set_option maxHeartbeats 1000000 in
theorem copied_any (v : Value) (L : List Int) (w : World) (hlen : L.length ≤ 50000) (hv : U.SrcInts w v L) : Calls Try.prog 8 #[v] w fun e W' => Gives L w e W' := by
  have HV := hid hv
  have hsh : ∃ a m c, v = .slice a m c := by
    rcases hv with ⟨rfl, _⟩ | ⟨ad, c, rfl, _⟩
    · exact ⟨_, _, _, rfl⟩
    · exact ⟨_, _, _, rfl⟩
  obtain ⟨a, m, c, rfl⟩ := hsh
  clear hv
  go_enter Try.func8, Try.ntmps8
  go_wp2_with ((at_builtin; refine U.wpList_append_ints rfl _ _ rfl w.heap.size (.slice none 0 0) 0 [] rfl (World.ownsRow_nil _ _ _ _) _ L rfl HV.out (by omega) (Nat.le_refl _) ?_; intro v' w' hown hgrow))
  go_ret
  refine ⟨v', rfl, by simpa using hown, (Below.refl _ w).grown hgrow (Nat.le_refl _) (fun k e => by simp [Value.ownBlock] at e)⟩

set_option maxRecDepth 100000 in
set_option maxHeartbeats 2000000 in
theorem same_any (u v : Value) (a b : List Int) (w : World) (ha : a.length ≤ 100000) (hu : U.IntsAt w u a) (hv : U.IntsAt w v b) :
    Calls Try.prog 10 #[u, v] w fun e W' => e = .returned (.bool (decide (a = b))) ∧ Below w.heap.size w W' := by
  have hus : ∃ ua uc, u = .slice ua a.length uc ∧ (0 < a.length → ∃ b off, ua = some ⟨b, off, none⟩ ∧ ∀ j, j < a.length → w.cell? ⟨b, off + j, none⟩ = some (.int .i32 (a[j]?.getD 0))) := by
    rcases hu with ⟨rfl, x, c, rfl⟩ | ⟨hp, b, off, c, rfl, h⟩
    · exact ⟨x, c, rfl, fun h => by simp at h⟩
    · exact ⟨_, c, rfl, fun _ => ⟨b, off, rfl, h⟩⟩
  have hvs : ∃ va vc, v = .slice va b.length vc ∧ (0 < b.length → ∃ d off, va = some ⟨d, off, none⟩ ∧ ∀ j, j < b.length → w.cell? ⟨d, off + j, none⟩ = some (.int .i32 (b[j]?.getD 0))) := by
    rcases hv with ⟨rfl, x, c, rfl⟩ | ⟨hp, d, off, c, rfl, h⟩
    · exact ⟨x, c, rfl, fun h => by simp at h⟩
    · exact ⟨_, c, rfl, fun _ => ⟨d, off, rfl, h⟩⟩
  obtain ⟨ua, uc, rfl, huf⟩ := hus
  obtain ⟨va, vc, rfl, hvf⟩ := hvs
  clear hu hv
  by_cases hl : a.length = b.length
  · have HR : Hid (∀ k, k ≤ a.length → (∀ j, j < k → a[j]?.getD 0 = b[j]?.getD 0) → k = a.length → a = b) := by
      intro k hk h e
      apply List.ext_getElem hl
      intro i h1 h2
      have := h i (by omega)
      rw [List.getElem?_eq_getElem h1, List.getElem?_eq_getElem h2] at this
      exact this
    have HNE : Hid (∀ k, k < a.length → a[k]?.getD 0 ≠ b[k]?.getD 0 → a ≠ b) := fun k hk h e => h (by rw [e])
    obtain ⟨n, hn⟩ : ∃ n, a.length = n := ⟨_, rfl⟩
    rw [hn] at ha huf HR HNE
    rw [← hl, hn] at hvf
    rw [← hl, hn]
    have HUF := hid huf
    have HVF := hid hvf
    have hdec : ∀ t : Bool, (t = true ↔ a = b) → Ending.returned (.bool t) = .returned (.bool (decide (a = b))) := fun t h => by
      congr 2
      cases t with
      | true => exact (decide_eq_true (h.1 rfl)).symm
      | false => exact (decide_eq_false (fun e => by have := h.2 e; cases this)).symm
    have HD := hid hdec
    obtain ⟨db, hdb⟩ : ∃ db, db = decide (a = b) := ⟨_, rfl⟩
    rw [← hdb] at HD ⊢
    clear huf hvf hl hn hdec hdb
    go_enter Try.func10, Try.ntmps10
    go_wp2_with fail
    go_loopw [5] (fun i wr => ∃ k : Nat, k ≤ n ∧ i = .int .i64 k ∧ Below w.heap.size w wr ∧ Hid (∀ j, j < k → a[j]?.getD 0 = b[j]?.getD 0)) (fun i _ => n - (intOf i).toNat)
    case atStart => exact ⟨0, Nat.zero_le _, rfl, Below.refl _ _, (fun j hj => by omega)⟩
    case round =>
      obtain ⟨k, hk, rfl, hB, HS⟩ := hrel
      by_cases hlt : k < n
      · obtain ⟨b1, o1, rfl, hc1⟩ := HUF.out (by omega)
        obtain ⟨b2, o2, rfl, hc2⟩ := HVF.out (by omega)
        have d1 : wr.cell? ⟨b1, o1 + k, none⟩ = some (.int .i32 (a[k]?.getD 0)) := (hB.cell (p := ⟨b1, o1 + k, none⟩) (lt_of_cell (hc1 k hlt))).trans (hc1 k hlt)
        have d2 : wr.cell? ⟨b2, o2 + k, none⟩ = some (.int .i32 (b[k]?.getD 0)) := (hB.cell (p := ⟨b2, o2 + k, none⟩) (lt_of_cell (hc2 k hlt))).trans (hc2 k hlt)
        have hltz : (k : Int) < (n : Int) := by omega
        by_cases he : a[k]?.getD 0 = b[k]?.getD 0
        · have HS2 : Hid (∀ j, j < k + 1 → a[j]?.getD 0 = b[j]?.getD 0) := fun j hj => by
            by_cases hjk : j = k
            · subst hjk; exact he
            · exact HS.out j (by omega)
          rw [← he] at d2
          generalize a[k]?.getD 0 = y at d1 d2
          clear hc1 hc2 he
          go_wp2_with fail
          go_quiet (fail)
          go_wp2
          go_roundw
          case rel => exact ⟨k + 1, by omega, by go_num, ⟨hB.os, hB.tape, hB.output, hB.size, hB.block⟩, HS2⟩
          case measure => simp [intOf]; omega
        · have HF := hid (HNE.out k hlt he)
          generalize a[k]?.getD 0 = y at d1 he
          generalize b[k]?.getD 0 = z at d2 he
          have hb : (y != z) = true := by simpa using he
          have hb2 : (y == z) = false := by simpa using he
          clear hc1 hc2 he
          go_wp2_with fail
          go_quiet (fail)
          go_wp2
          go_ret
          exact ⟨HD.out false ⟨fun h => (by cases h), fun h => absurd h HF.out⟩, ⟨hB.os, hB.tape, hB.output, hB.size, hB.block⟩⟩
      · have hltz : ¬ (k : Int) < (n : Int) := by omega
        have HE := hid (HR.out k hk HS.out (by omega))
        go_wp2
        go_ret
        exact ⟨HD.out true ⟨fun _ => HE.out, fun _ => rfl⟩, hB⟩
  · have hd : decide (a = b) = false := decide_eq_false (fun e => hl (by rw [e]))
    rw [hd]
    have hb : ((a.length : Int) != (b.length : Int)) = true := by simp; omega
    have hb2 : ((a.length : Int) == (b.length : Int)) = false := by simp; omega
    clear huf hvf
    go_enter Try.func10, Try.ntmps10
    go_wp2
    go_ret
    exact ⟨rfl, Below.refl _ _⟩

theorem Row21.new (W : World) (zs : List Int) (n cap : Nat) (hn : n = zs.length) : Row21 (W.alloc (.cells (zs.map (Value.int .i32)).toArray 21)) (.slice (some ⟨W.heap.size, 0, none⟩) n cap) zs := by
  subst hn
  refine ⟨_, cap, rfl, fun _ => ⟨W.heap.size, _, rfl, heap_alloc_last W _, fun j hj => ?_⟩⟩
  simp [List.getElem?_eq_getElem hj]
theorem own_get {W : World} {base n : Nat} {v : Value} {zs : List Int} (h : W.ownsRow base 21 1 v n (zs.map (Value.int .i32))) (hn : n = zs.length) (hp : 0 < n) : ∃ g cap, v = .slice (some ⟨g, 0, none⟩) n cap ∧ g < W.heap.size ∧ ∀ j, j < n → W.cell? ⟨g, j, none⟩ = some (.int .i32 (zs[j]?.getD 0)) := by
  have h2 := Row21.of_own hn h
  rcases h.2 with ⟨rfl, h0⟩ | ⟨g, cap, cur, rfl, _⟩
  · omega
  · obtain ⟨b, e, hb, hc⟩ := Row21.cell h2 hn (by omega)
    cases e
    exact ⟨g, cap, rfl, hb, fun j hj => hc j (by omega)⟩
theorem w1 : nfcI [115, 775, 803] = [7785] := by kernel_rfl
theorem w2 : nfdI [7785] = [115, 803, 775] := by kernel_rfl
theorem w3 : ordI [97, 769, 807] = [97, 807, 769] := by kernel_rfl
theorem w4 : (decide (nfcI [65, 778] = [65, 778])) = false := by kernel_rfl
theorem w5 : nfcI (U.dec (U.bn ⟨#[65, 204, 138]⟩)) = [197] := by kernel_rfl
theorem w6 {t : ByteArray} (h : textR ⟨#[65, 204, 138]⟩ t) : t = ⟨#[195, 133]⟩ := by
  obtain ⟨r, h⟩ := h
  rw [w5] at h
  rcases h with ⟨_, _, h⟩ | ⟨h, _⟩
  · exact U.bn_inj (h.trans (by kernel_rfl))
  · exact absurd h (by decide)

set_option maxRecDepth 100000 in
set_option maxHeartbeats 4000000 in
theorem works_any (w : World) : Calls Try.prog 7 #[] w fun e W' => e = .returned (.bool true) ∧ Below w.heap.size w W' := by
  go_enter Try.func7, Try.ntmps7
  go_wp2_with fail
  refine (nfc_any _ [115, 775, 803] _ (by decide) (Row21.new w [115, 775, 803] 3 3 rfl)).mono ?_
  rw [w1]
  rintro e W1 ⟨v1, rfl, h1, hB1⟩
  have hb1 : Below w.heap.size w W1 := ((Below.refl _ w).alloc (Nat.le_refl _) _).trans (hB1.mono (by simp))
  obtain ⟨g1, c1, rfl, hg1, hc1⟩ := own_get h1 rfl (by decide)
  have HB1 := hid hb1
  have d1 := hc1 0 (by decide)
  clear h1 hB1 hb1 hc1
  go_wp2_with fail
  refine (nfd_any _ [7785] _ (by decide) (Row21.new W1 [7785] 1 1 rfl)).mono ?_
  rw [w2]
  rintro e W2 ⟨v2, rfl, h2, hB2⟩
  have hb2 : Below W1.heap.size W1 W2 := ((Below.refl _ W1).alloc (Nat.le_refl _) _).trans (hB2.mono (by simp))
  have HB2 := hid (HB1.out.trans (hb2.mono HB1.out.size))
  obtain ⟨g2, c2, rfl, hg2, hc2⟩ := own_get h2 rfl (by decide)
  have d2 := hc2 1 (by decide)
  replace d1 := (hb2.cell (p := ⟨g1, 0, none⟩) hg1).trans d1
  replace hg1 : g1 < W2.heap.size := Nat.lt_of_lt_of_le hg1 hb2.size
  clear h2 hB2 hb2 HB1 hc2
  go_wp2_with fail
  refine (order_any _ [97, 769, 807] _ (by decide) (Row21.new W2 [97, 769, 807] 3 3 rfl)).mono ?_
  rw [w3]
  rintro e W3 ⟨v3, rfl, h3, hB3⟩
  have hb3 : Below W2.heap.size W2 W3 := ((Below.refl _ W2).alloc (Nat.le_refl _) _).trans (hB3.mono (by simp))
  have HB3 := hid (HB2.out.trans (hb3.mono HB2.out.size))
  obtain ⟨g3, c3, rfl, hg3, hc3⟩ := own_get h3 rfl (by decide)
  have d3 := hc3 1 (by decide)
  replace d1 := (hb3.cell (p := ⟨g1, 0, none⟩) hg1).trans d1
  replace d2 := (hb3.cell (p := ⟨g2, 1, none⟩) hg2).trans d2
  clear h3 hB3 hb3 HB2 hc3
  simp only [List.getElem?_cons_zero, List.getElem?_cons_succ, Option.getD_some] at d1 d2 d3
  go_wp2_with fail
  refine (is_any _ [65, 778] _ (by decide) (Row21.new W3 [65, 778] 2 2 rfl)).mono ?_
  rw [w4]
  rintro e W4 ⟨rfl, hB4⟩
  have hb4 : Below W3.heap.size W3 W4 := ((Below.refl _ W3).alloc (Nat.le_refl _) _).trans (hB4.mono (by simp))
  have HB4 := hid (HB3.out.trans (hb4.mono HB3.out.size))
  clear hB4 hb4 HB3
  go_wp2_with fail
  refine (text_any ⟨#[65, 204, 138]⟩ _ (by decide)).mono ?_
  rintro e W5 ⟨⟨t, rfl, ht⟩, hB5⟩
  obtain rfl := w6 ht
  go_wp2
  go_ret
  exact ⟨by first | rfl | simp, HB4.out.trans (hB5.mono HB4.out.size)⟩
end Go.Proofs.Ytcgfbejcehiolaa
