/- What the document's own definition answers, of one code point: its class, and what it is made of. -/
import Derived.Test.YtcgfbejcehiolaaLC
import Derived.Test.YtcgfbejcehiolaaDS
namespace Go.Proofs.Ytcgfbejcehiolaa
open Go.RowKit
set_option linter.unusedVariables false

set_option maxRecDepth 100000 in
set_option maxHeartbeats 2000000 in
theorem rclass_any (r : Int) (w : World) : Calls Try.prog 20 #[.int .i32 r] w fun e W' => e = .returned (.int .u8 (cl r)) ∧ Below w.heap.size w W' := by
  have hcl := cl_ref r
  have hfind := D.rfind_any r
  obtain ⟨⟨x0, x1, x2, x3, x4, x5, x6, x7, x8, x9, x10⟩, hx⟩ : ∃ x, x = D.rfnd r := ⟨_, rfl⟩
  rw [← hx] at hfind hcl
  dsimp only at hcl
  rw [← hcl]
  have HF := hid hfind
  have hfl : ∀ W : World, (Instr.field 30 (.agg #[.int .i32 x0, .int .i32 x1, .int .u8 x2, .int .i32 x3, .int .i32 x4, .int .i32 x5, .int .u8 x6, .int .u8 x7, .int .u8 x8, .bool x9, .int .u8 x10]) 8).run Try.prog W = .ok (.int .u8 x8) W := fun W => by kernel_rfl
  clear hfind hcl hx
  go_enter Try.func20, Try.ntmps20
  go_wp2_with fail
  refine (HF.out _).mono ?_
  simp only [D.cells11]
  rintro e w0 ⟨rfl, hB0⟩
  go_wp2
  go_ret
  exact ⟨rfl, hB0⟩

theorem fd_pre (L : List Int) (k : Nat) (hk : k < L.length) : (L.take (k + 1)).flatMap fd = (L.take k).flatMap fd ++ fd (L[k]?.getD 0) := by
  have h : L.take (k + 1) = L.take k ++ [L[k]?.getD 0] := by rw [List.take_add_one, List.getElem?_eq_getElem hk]; rfl
  rw [h, List.flatMap_append]
  simp
theorem fd_more (l : List Int) : l.length ≤ (l.flatMap fd).length := by
  induction l with
  | nil => simp
  | cons x l ih => have := (fd_len x).1; rw [List.flatMap_cons, List.length_append, List.length_cons]; omega
theorem d_cells {w : World} {v : Value} {L : List Int} (h : D.IntsAt w v L) : ∃ a c, v = .slice a L.length c ∧ (0 < L.length → ∃ b, a = some ⟨b, 0, none⟩ ∧ ∀ j, j < L.length → w.cell? ⟨b, j, none⟩ = some (.int .i32 (L[j]?.getD 0))) := by
  obtain ⟨a, c, e, _, f⟩ := h
  refine ⟨a, c, e, fun hp => ?_⟩
  obtain ⟨b, e2, hb⟩ := f hp
  refine ⟨b, e2, fun j hj => ?_⟩
  simp [World.cell?, hb, List.getElem?_eq_getElem hj]
theorem own_base {W : World} {a b : Nat} {v : Value} {n : Nat} {X : List Value} (h : W.ownsRow b 21 1 v n X) (hab : a ≤ b) : W.ownsRow a 21 1 v n X := by
  rcases h with ⟨h1, ⟨rfl, h2⟩ | ⟨g, cap, cur, rfl, hbg, h3⟩⟩
  · exact ⟨h1, .inl ⟨rfl, h2⟩⟩
  · exact ⟨h1, .inr ⟨g, cap, cur, rfl, by omega, h3⟩⟩
theorem gives_late {w w1 W : World} {v : Value} {n : Nat} {L : List Int} (hn : n = L.length) (h1 : Below w.heap.size w w1) (hB : Below w1.heap.size w1 W) (h : W.ownsRow w1.heap.size 21 1 v n (L.map (Value.int .i32))) : Gives L w (.returned v) W :=
  ⟨v, rfl, hn ▸ own_base h h1.size, h1.trans (hB.mono h1.size)⟩
theorem gives_own {w W : World} {v : Value} {n : Nat} {L : List Int} (hn : n = L.length) (hB : Below w.heap.size w W) (h : W.ownsRow w.heap.size 21 1 v n (L.map (Value.int .i32))) : Gives L w (.returned v) W := ⟨v, rfl, hn ▸ h, hB⟩
theorem gives_one {w W : World} {r : Int} (hB : Below w.heap.size w W) : Gives [r] w (.returned (.slice (some ⟨W.heap.size, 0, none⟩) 1 1)) (W.alloc (.cells #[.int .i32 r] 21)) := by
  refine ⟨_, rfl, ⟨rfl, .inr ⟨W.heap.size, 1, _, rfl, hB.size, heap_alloc_last W _, ?_⟩⟩, hB.alloc hB.size _⟩
  all_goals first | rfl | (simp [maxLen])

set_option maxRecDepth 100000 in
set_option maxHeartbeats 2000000 in
theorem rapart_zero (r : Int) (h : D.dcp r = []) (w : World) : Calls Try.prog 26 #[.int .i32 r] w fun e W' => Gives (fd r) w e W' := by
  rw [fd_nil h]
  have HD := D.rdecomp_any r w
  rw [D.rdcp_eq, h] at HD
  replace HD := hid HD
  clear h
  go_enter Try.func26, Try.ntmps26
  go_wp2_with fail
  refine HD.out.mono ?_
  rintro e W1 ⟨⟨v1, rfl, h1⟩, B1⟩
  obtain ⟨a1, c1, rfl, _⟩ := d_cells h1
  rw [List.length_nil]
  clear HD h1
  go_wp2
  go_ret
  exact gives_one B1

set_option maxRecDepth 100000 in
set_option maxHeartbeats 4000000 in
theorem rapart_n : ∀ (m : Nat) (r : Int), tall m r = true → ∀ w : World, Calls Try.prog 26 #[.int .i32 r] w fun e W' => Gives (fd r) w e W'
  | 0, r, ht, w => rapart_zero r (by simpa [tall] using ht) w
  | m + 1, r, ht, w => by
    by_cases hd : D.dcp r = []
    · exact rapart_zero r hd w
    rw [fd_cons hd]
    have HD := D.rdecomp_any r w
    rw [D.rdcp_eq] at HD
    obtain ⟨L, hL⟩ : ∃ L, D.dcp r = L := ⟨_, rfl⟩
    have htl : ∀ c ∈ L, tall m c = true := by
      rw [← hL]; simpa [tall] using ht
    have hL2 : L.length ≤ 3 := by
      have h1 := (fd_len r).2
      rw [fd_cons hd, hL] at h1
      have := fd_more L
      omega
    rw [hL] at HD hd ⊢
    have HCALL : Hid (∀ c ∈ L, ∀ w : World, Calls Try.prog 26 #[.int .i32 c] w fun e W' => Gives (fd c) w e W') := fun c hc => rapart_n m c (htl c hc)
    have HDC := hid HD
    clear ht hL htl HD
    obtain ⟨n, hn⟩ : ∃ n, L.length = n := ⟨_, rfl⟩
    have hn0 : 0 < n := by
      cases L with
      | nil => exact absurd rfl hd
      | cons x l => simp at hn; omega
    rw [hn] at hL2
    clear hd
    go_enter Try.func26, Try.ntmps26
    go_wp2_with fail
    refine HDC.out.mono ?_
    rintro e W1 ⟨⟨v1, rfl, h1⟩, B1⟩
    obtain ⟨a1, c1, rfl, hc1⟩ := d_cells h1
    rw [hn] at hc1 ⊢
    obtain ⟨b1, rfl, hc2⟩ := hc1 hn0
    have HC := hid hc2
    have hz : ((n : Int) == 0) = false := by simp; omega
    have HN := hid hn
    have HB1 := hid B1
    clear HDC h1 hc1 hc2 hn B1
    go_wp2_with fail
    go_loopw [4, 5] (fun v4 i wr => ∃ k p : Nat, k ≤ n ∧ i = .int .i64 k ∧ p ≤ k * 3 ∧ Hid (p = ((L.take k).flatMap fd).length) ∧ Hid (wr.ownsRow W1.heap.size 21 1 v4 p (((L.take k).flatMap fd).map (Value.int .i32))) ∧ Hid (Below W1.heap.size W1 wr)) (fun _ i _ => n - (intOf i).toNat)
    case atStart => exact ⟨0, 0, Nat.zero_le _, rfl, Nat.le_refl _, rfl, World.ownsRow_nil _ _ _ _, Below.refl _ _⟩
    case round =>
      obtain ⟨k, p, hk, rfl, hp, HP, HR, HBW⟩ := hrel
      by_cases hlt : k < n
      · have hltz : (k : Int) < (n : Int) := by omega
        have hkl : k < L.length := by have := HN.out; omega
        have hc := HC.out k hlt
        have d1 : wr.cell? ⟨b1, k, none⟩ = some (.int .i32 (L[k]?.getD 0)) := (HBW.out.cell (p := ⟨b1, k, none⟩) (lt_of_cell hc)).trans hc
        have hcall := HCALL.out (L[k]?.getD 0) (by rw [List.getElem?_eq_getElem hkl]; exact List.getElem_mem hkl)
        have hpre := fd_pre L k hkl
        have hfl := fd_len (L[k]?.getD 0)
        obtain ⟨c, hce⟩ : ∃ c, L[k]?.getD 0 = c := ⟨_, rfl⟩
        rw [hce] at d1 hcall hpre hfl
        have HK := hid hcall
        have HE := hid hpre
        have hfl1 := hfl.2
        clear hc hcall hpre hce hkl hfl
        go_wp2_with fail
        refine (HK.out _).mono ?_
        rintro e W2 ⟨v2, rfl, r2, B2⟩
        obtain ⟨a2, c2, rfl⟩ := own_sh r2
        replace HR := hid (ownsRow_below HR.out B2 (Nat.le_refl _))
        replace HBW := hid (HBW.out.trans (B2.mono HBW.out.size))
        have R2 := hid r2
        clear r2 B2 d1
        go_wp2_with ((at_builtin; refine U.wpList_append_ints rfl _ _ rfl _ _ _ ((L.take k).flatMap fd) rfl HR.out _ (fd c) rfl (U.SrcInts.own rfl R2.out) (by omega) HBW.out.size ?_; intro v3 W3 r3 g3))
        go_roundw
        case rel =>
          refine ⟨k + 1, p + (fd c).length, by omega, by go_num, by omega, ?_, ?_, below_own HBW.out HR.out g3⟩
          · show _ = _; rw [HE.out, List.length_append, HP.out]
          · show World.ownsRow _ _ _ _ _ _ _; rw [HE.out]; exact r3
        case measure => simp [intOf]; omega
      · have hltz : ¬ (k : Int) < (n : Int) := by omega
        have hkn : k = n := by omega
        go_wp2
        go_ret
        refine gives_late (n := p) ?_ HB1.out HBW.out ?_
        · have h1 := HP.out; rw [hkn, List.take_of_length_le (by rw [HN.out]; exact Nat.le_refl _)] at h1; exact h1
        · have h1 := HR.out; rw [hkn, List.take_of_length_le (by rw [HN.out]; exact Nat.le_refl _)] at h1; exact h1
theorem rapart_any (r : Int) (w : World) : Calls Try.prog 26 #[.int .i32 r] w fun e W' => Gives (fd r) w e W' := rapart_n 4 r (tall4 r) w
end Go.Proofs.Ytcgfbejcehiolaa
