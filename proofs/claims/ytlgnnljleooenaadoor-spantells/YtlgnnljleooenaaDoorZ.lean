/- The contract of the document's edges: the places at which something may change, rising, each once. -/
import Derived.Test.YtlgnnljleooenaaDoorC
import Derived.Test.YtlgnnljleooenaaDoorE
namespace Go.Proofs.YtlgnnljleooenaaDoor
open Go.RowKit
set_option linter.unusedVariables false

def raw (l : List Sp) : List Int := l.flatMap fun s => [s.1, s.2 + 1]
def start (l : List Sp) : List Int := [0, 1114112] ++ raw l
theorem start_snoc (l : List Sp) (k : Nat) (h : k < l.length) (x y : Int) (hx : l[k]?.getD (0, 0) = (x, y)) : start (l.take (k + 1)) = start (l.take k) ++ [x, y + 1] := by
  unfold start raw
  rw [take_snoc l (0, 0) k h, hx]; simp
theorem start_len (l : List Sp) : (start l).length = 2 + 2 * l.length := by
  unfold start raw
  induction l with
  | nil => rfl
  | cons s t ih => simp at ih ⊢; omega

theorem keep_row {W W' : World} {B1 B2 : Nat} {e1 e2 : TypeId} {s1 s2 : Nat} {v1 v2 : Value} {n1 n2 : Nat} {xs1 xs2 : List Value} (h1 : W.ownsRow B1 e1 s1 v1 n1 xs1) (h2 : W.ownsRow B2 e2 s2 v2 n2 xs2) (hne : e1 ≠ e2) (hg : W.grownBy W' v1.ownBlock) : W'.ownsRow B2 e2 s2 v2 n2 xs2 := by
  refine h2.kept hg ?_
  rcases h2.2 with ⟨rfl, _⟩ | ⟨g, cap, cur, rfl, _, hb, _⟩
  · exact .inl rfl
  · right
    intro e
    rcases h1.2 with ⟨rfl, _⟩ | ⟨g', cap', cur', rfl, _, hb', _⟩
    · simp [Value.ownBlock] at e
    · obtain rfl : g = g' := by simpa [Value.ownBlock] using e
      rw [hb'] at hb
      cases hb
      exact hne rfl
theorem row_ne {W : World} {B1 B2 : Nat} {e1 e2 : TypeId} {s1 s2 : Nat} {v1 : Value} {n1 n2 g cap : Nat} {xs1 xs2 : List Value} (h1 : W.ownsRow B1 e1 s1 v1 n1 xs1) (h2 : W.ownsRow B2 e2 s2 (.slice (some ⟨g, 0, none⟩) n2 cap) n2 xs2) (hne : e1 ≠ e2) : v1.ownBlock ≠ some g := by
  intro e
  rcases h2.2 with ⟨h, _⟩ | ⟨g2, cap2, cur2, h, _, hb, _⟩
  · cases h
  · simp only [Value.slice.injEq, Option.some.injEq, Addr.mk.injEq, and_true] at h
    obtain ⟨rfl, -, -⟩ := h
    rcases h1.2 with ⟨rfl, _⟩ | ⟨g', cap', cur', rfl, _, hb', _⟩
    · simp [Value.ownBlock] at e
    · obtain rfl : g' = g := by simpa [Value.ownBlock] using e
      rw [hb'] at hb
      cases hb
      exact hne rfl

theorem row_snoc {W : World} {B : Nat} {v : Value} {O : List Int} {y : Int} (h : W.ownsRow B 21 1 v (O.length + [y].length) ((O ++ [y]).map (Value.int .i32))) : W.ownsRow B 21 1 v (O ++ [y]).length ((O ++ [y]).map (Value.int .i32)) := by
  rw [List.length_append]; exact h
def srt (Z : List Int) (k : Nat) : Prop := ∀ p q, p < q → q < k → Z[p]?.getD 0 ≤ Z[q]?.getD 0
def srtBut (Z : List Int) (k m : Nat) : Prop := ∀ p q, p < q → q ≤ k → q ≠ m → Z[p]?.getD 0 ≤ Z[q]?.getD 0
theorem row_cell {W : World} {B g n cap : Nat} {Z : List Int} (h : W.ownsRow B 21 1 (.slice (some ⟨g, 0, none⟩) n cap) n (Z.map (Value.int .i32))) (j : Nat) (hj : j < n) : W.cell? ⟨g, j, none⟩ = some (.int .i32 (Z[j]?.getD 0)) := by
  have hl : Z.length = n := by have := h.1; rw [List.length_map] at this; omega
  rw [h.cellAt j (by omega), List.getElem?_map, List.getElem?_eq_getElem (by omega)]; rfl
theorem swap_perm (Z : List Int) (m : Nat) (h : m + 1 < Z.length) : ((Z.set m (Z[m + 1]?.getD 0)).set (m + 1) (Z[m]?.getD 0)).Perm Z := by
  obtain ⟨A, x, y, B, rfl, rfl⟩ : ∃ A x y B, Z = A ++ x :: y :: B ∧ A.length = m :=
    ⟨Z.take m, Z[m], Z[m + 1], Z.drop (m + 2), by rw [← List.drop_eq_getElem_cons, ← List.drop_eq_getElem_cons, List.take_append_drop], by rw [List.length_take]; omega⟩
  simp only [List.getElem?_append_right (Nat.le_refl _), List.getElem?_append_right (Nat.le_add_right _ 1), Nat.sub_self, Nat.add_sub_cancel_left, List.getElem?_cons_zero, List.getElem?_cons_succ, Option.getD_some]
  rw [List.set_append_right _ _ (Nat.le_refl _), Nat.sub_self, List.set_cons_zero, List.set_append_right _ _ (Nat.le_add_right _ 1), Nat.add_sub_cancel_left, List.set_cons_succ, List.set_cons_zero]
  exact List.Perm.append_left A (List.Perm.swap x y B)
theorem swap_get (Z : List Int) (m p : Nat) (x y : Int) (h : m + 1 < Z.length) : ((Z.set m y).set (m + 1) x)[p]?.getD 0 = if p = m + 1 then x else if p = m then y else Z[p]?.getD 0 := by
  rw [List.getElem?_set, List.getElem?_set]
  by_cases h1 : m + 1 = p
  · subst h1; simp [h]
  · by_cases h2 : m = p
    · subst h2; simp [show m < Z.length by omega]
    · rw [if_neg h1, if_neg h2, if_neg (fun e => h1 e.symm), if_neg (fun e => h2 e.symm)]
theorem swap_srt {Z : List Int} {k m : Nat} (hS : srtBut Z k (m + 1)) (h : m + 1 < Z.length) (hk : m + 1 ≤ k) (hxy : Z[m + 1]?.getD 0 < Z[m]?.getD 0) : srtBut ((Z.set m (Z[m + 1]?.getD 0)).set (m + 1) (Z[m]?.getD 0)) k m := by
  intro p q h1 h2 h3
  rw [swap_get Z m p _ _ h, swap_get Z m q _ _ h]
  by_cases q1 : q = m + 1
  · rw [if_pos q1, if_neg (by omega)]
    by_cases p1 : p = m
    · rw [if_pos p1]; omega
    · rw [if_neg p1]; exact hS p m (by omega) (by omega) (by omega)
  · rw [if_neg q1, if_neg h3]
    by_cases p1 : p = m + 1
    · rw [if_pos p1]; exact hS m q (by omega) h2 q1
    · rw [if_neg p1]
      by_cases p2 : p = m
      · rw [if_pos p2]; exact hS (m + 1) q (by omega) h2 q1
      · rw [if_neg p2]; exact hS p q h1 h2 q1
theorem srt_stop {Z : List Int} {k m : Nat} (hS : srtBut Z k (m + 1)) (hxy : Z[m]?.getD 0 ≤ Z[m + 1]?.getD 0) : srt Z (k + 1) := by
  intro p q h1 h2
  by_cases q1 : q = m + 1
  · subst q1
    by_cases p1 : p = m
    · rw [p1]; exact hxy
    · have := hS p m (by omega) (by omega) (by omega); omega
  · exact hS p q h1 (by omega) q1

set_option maxRecDepth 100000 in
set_option maxHeartbeats 3200000 in
theorem redges_any (v u : Value) (a b : List Sp) (ha : chk a = 0) (hb : chk b = 0) (w : World) (hv : SpansAt w v a) (hu : SpansAt w u b) :
    Calls Tryd.prog 35 #[v, u] w fun e W' => ∃ (v' : Value) (E : List Int), e = .returned v' ∧ E.Pairwise (· < ·) ∧ (∀ x, x ∈ E ↔ x ∈ start (a ++ b)) ∧ E.length ≤ 4098 ∧ W'.ownsRow w.heap.size 21 1 v' E.length (E.map (Value.int .i32)) ∧ Below w.heap.size w W' := by
  obtain ⟨i0, hi, hz0, hz1, hz2⟩ := info_parts Tryd.info21
  obtain ⟨hla, hoka⟩ := chk_zero ha
  obtain ⟨hlb, hokb⟩ := chk_zero hb
  have HOK : Hid ((a ++ b).all ok1 = true) := by show _ = _; rw [List.all_append, hoka, hokb]; rfl
  clear ha hb hoka hokb
  have hl0 : (w.alloc (.cells #[.int .i32 0, .int .i32 1114112] 21)).ownsRow w.heap.size 21 1 (.slice (some ⟨w.heap.size, 0, none⟩) 2 2) 2 [.int .i32 0, .int .i32 1114112] :=
    ⟨rfl, .inr ⟨w.heap.size, 2, _, rfl, Nat.le_refl _, heap_alloc_new w _, Nat.le_refl _, by decide, rfl, rfl⟩⟩
  have hB0 := (Below.refl w.heap.size w).alloc (Nat.le_refl _) (.cells #[.int .i32 0, .int .i32 1114112] 21)
  have hs0 : w.heap.size ≤ (w.alloc (.cells #[.int .i32 0, .int .i32 1114112] 21)).heap.size := hB0.size
  obtain ⟨c, hc⟩ : ∃ c, c = a ++ b := ⟨_, rfl⟩
  rw [← hc] at HOK ⊢
  have HCC := hid' hc
  obtain ⟨N, hN⟩ : ∃ N, N = a.length + b.length := ⟨_, rfl⟩
  have HNN := hid' hN
  have HCL : Hid (c.length = N) := by show _ = _; rw [hc, hN, List.length_append]
  have hN9 : N ≤ 2048 := by omega
  clear hc hN
  go_enter Tryd.func35, Tryd.ntmps35
  go_wp2_with ((at_builtin; refine wpList_append_spans rfl _ _ rfl w.heap.size _ _ [] rfl (World.ownsRow_nil _ _ _ _) _ a rfl (hv.below hB0 (Nat.le_refl _)) (by omega) hs0 ?_; intro v1 w1 hown1 hgrow1; rw [Nat.zero_add, List.nil_append] at hown1; refine Hid.out ?_))
  refine hid' ?_
  have hl1 := hl0.kept hgrow1 (.inr (by simp [Value.ownBlock, Act.eval]))
  have hB1 := below_grow (e := 44) (size := 2) hB0 hs0 (World.ownsRow_nil _ _ _ _) hgrow1
  clear hgrow1 hl0 hB0 hs0
  go_wp2_with ((at_builtin; refine wpList_append_spans rfl _ _ rfl w.heap.size _ _ a rfl hown1 _ b rfl (hu.below hB1 (Nat.le_refl _)) (by omega) hB1.size ?_; intro v2 w2 hown2 hgrow2; refine Hid.out ?_))
  refine hid' ?_
  have hl2 := keep_row hown1 hl1 (by decide) hgrow2
  have hB2 := below_grow hB1 hB1.size hown1 hgrow2
  clear hgrow2 hl1 hB1 hown1
  rw [← HCC.out, ← HNN.out] at hown2
  have hS2 := SpansAt.own HCL.out.symm hown2
  obtain ⟨pc, kc, rfl⟩ : ∃ p k, v2 = .slice p N k := by obtain ⟨p, k, e, _⟩ := hS2; exact ⟨p, k, by rw [e, HCL.out]⟩
  clear hS2
  go_wp2_with fail
  go_loopw [5, 7] (fun v5 i wr => ∃ k : Nat, k ≤ N ∧ i = .int .i64 k ∧ wr.ownsRow w.heap.size 21 1 v5 (start (c.take k)).length ((start (c.take k)).map (Value.int .i32)) ∧ wr.ownsRow w.heap.size 44 2 (.slice pc N kc) N (flat2 c) ∧ Below w.heap.size w wr)
    (fun _ i _ => N - (intOf i).toNat)
  case atStart => exact ⟨0, Nat.zero_le _, rfl, hl2, hown2, hB2⟩
  case round =>
    obtain ⟨k, hk, rfl, hrow, hown, hB⟩ := hrel
    clear hl2 hown2 hB2
    by_cases hlt : k < N
    · have hlt' : k < c.length := by rw [HCL.out]; exact hlt
      obtain ⟨pa, ca, eq, -, hs⟩ := SpansAt.own HCL.out.symm hown
      simp only [Value.slice.injEq] at eq
      obtain ⟨rfl, -, rfl⟩ := eq
      obtain ⟨bb, off, rfl, hc⟩ := hs (by omega)
      obtain ⟨x, y, HX, c1, c2, hbb⟩ := SpansAt.elem (cap := kc) hlt' (Below.refl _ wr) hc
      have hxy := ok1_true_of (x, y) (by rw [← HX.out, List.getElem?_eq_getElem hlt']; exact List.all_eq_true.1 HOK.out _ (List.getElem_mem hlt'))
      obtain ⟨h1, h2, h3⟩ := hxy
      dsimp only at h1 h2 h3
      have hoff : off = 0 := by
        rcases hown.2 with ⟨h, _⟩ | ⟨g2, cap2, cur2, h, _⟩
        · cases h
        · simp only [Value.slice.injEq, Option.some.injEq, Addr.mk.injEq, and_true] at h
          exact h.1.2
      subst hoff
      rw [Nat.zero_add] at c1 c2
      have hne := row_ne hrow hown (by decide)
      have HT := hid' (start_snoc c k hlt' x y HX.out)
      have hTl := start_len (c.take k)
      have htk : (c.take k).length ≤ k := List.length_take_le _ _
      obtain ⟨S0, hS0⟩ : ∃ S0, S0 = start (c.take k) := ⟨_, rfl⟩
      rw [← hS0] at hrow HT hTl
      have hS9 : S0.length ≤ 4098 := by omega
      clear hS0 hTl htk hc hs HX
      have b1 : (k : Int) < (N : Int) := by omega
      have b0 : (0 : Int) ≤ (k : Int) := by omega
      have hwr : IntKind.i32.wrap (y + 1) = y + 1 := by simp [IntKind.wrap, IntKind.bits, IntKind.signed]; omega
      go_wp2_with fail
      go_region_held3 (fun w' => w'.cell? ⟨bb, k * 2, none⟩ = some (.int .i32 x) ∧ w'.cell? ⟨bb, k * 2 + 1, none⟩ = some (.int .i32 y))
        (first
          | go_keep
          | (go_split_ands
             refine ⟨?_, ?_⟩
             · (rw [hgrow.cell_far _ (by simp; omega) (Ne.symm hne)]; assumption)
             · (rw [hgrow.cell_far _ (by simp; omega) (Ne.symm hne)]; assumption)))
        ((refine step_append_lies _ (by rfl) _ _ _ (by rfl) w.heap.size 21 i0 _ 1 4 Tryd.underlying41 hi hz0 hz1 hz2 rfl (by omega) _ _ _ (by rfl) ((hrow.alloc _).drew)
            ⟨wr.heap.size, 0, none⟩ 2 2 [.int .i32 x, .int .i32 (y + 1)] (by rfl) (by rfl) (World.news_of_block (cs := #[.int .i32 x, .int .i32 (y + 1)]) (t := 21) (fr := (0, 0)) (heap_alloc_new wr _)) (by simp [Value.oneCell'])
            (by omega) (by unfold maxLen; omega) (by omega) (by simp; exact Nat.le_succ_of_le hB.size) (wr.heap.size + 1) (by simp) ?_; intro gg cap' w3 hown3 hgrow hat hlt3))
      have hB3 : Below w.heap.size w w3 := below_grow (w1 := (wr.alloc (.cells #[.int .i32 x, .int .i32 (y + 1)] 21)).drew) (hB.alloc hB.size _).drew (Nat.le_trans hB.size (by simp)) ((hrow.alloc _).drew) hgrow
      have hC3 : w3.ownsRow w.heap.size 44 2 (.slice (some ⟨bb, 0, none⟩) N kc) N (flat2 c) := keep_row (W := (wr.alloc (.cells #[.int .i32 x, .int .i32 (y + 1)] 21)).drew) ((hrow.alloc _).drew) ((hown.alloc _).drew) (by decide) hgrow
      have HR3 : Hid (w3.ownsRow w.heap.size 21 1 (.slice (some ⟨gg, 0, none⟩) (S0.length + 2) cap') (start (c.take (k + 1))).length ((start (c.take (k + 1))).map (Value.int .i32))) := by
        show w3.ownsRow _ _ _ _ _ _
        rw [HT.out, List.length_append, List.map_append]; exact hown3
      clear hown3 hgrow hat hlt3 hrow hown c1 c2 HT hB
      go_wp2
      go_roundw
      case rel => exact ⟨k + 1, by omega, by go_num, HR3.out, hC3, hB3⟩
      case measure => simp [intOf]; omega
    · have hkk : k = N := by omega
      rw [hkk, List.take_of_length_le (by rw [HCL.out]; exact Nat.le_refl _)] at hrow
      have hSl := start_len c
      rw [HCL.out] at hSl
      obtain ⟨S, hS⟩ : ∃ S, S = start c := ⟨_, rfl⟩
      rw [← hS] at hrow hSl
      have HSS := hid' hS
      obtain ⟨n, hn⟩ : ∃ n, n = S.length := ⟨_, rfl⟩
      rw [← hn] at hrow
      have hn2 : 2 ≤ n := by omega
      have hn9 : n ≤ 4098 := by omega
      have HNL := hid' hn
      clear hS hn hSl hkk hown
      rcases Go.Joins.ownsRow_forms hrow with ⟨-, h00⟩ | ⟨g, cap, rfl⟩
      · omega
      go_wp2_with fail
      go_loopw [8] (fun i wq => ∃ (k : Nat) (Z : List Int), 1 ≤ k ∧ k ≤ n ∧ i = .int .i64 k ∧ wq.ownsRow w.heap.size 21 1 (.slice (some ⟨g, 0, none⟩) n cap) n (Z.map (Value.int .i32)) ∧ Hid (Z.Perm S) ∧ Hid (srt Z k) ∧ Below w.heap.size w wq)
        (fun i _ => n - (intOf i).toNat)
      case atStart => exact ⟨1, S, Nat.le_refl _, by omega, rfl, hrow, List.Perm.refl _, (fun p q h1 h2 => by omega), hB⟩
      case round =>
        obtain ⟨k, Z, hk1, hk2, rfl, hrow, HP, HS, hB⟩ := hrel
        by_cases hlt : k < n
        · have hlt' : (k : Int) < (n : Int) := by omega
          go_wp2_with fail
          go_loopw [9] (fun i wq => ∃ (m : Nat) (Z : List Int), m ≤ k ∧ i = .int .i64 m ∧ wq.ownsRow w.heap.size 21 1 (.slice (some ⟨g, 0, none⟩) n cap) n (Z.map (Value.int .i32)) ∧ Hid (Z.Perm S) ∧ Hid (srtBut Z k m) ∧ Below w.heap.size w wq)
            (fun i _ => (intOf i).toNat)
          case atStart => exact ⟨k, Z, Nat.le_refl _, rfl, hrow, HP, (fun p q h1 h2 h3 => HS.out p q h1 (by omega)), hB⟩
          case round =>
            obtain ⟨m, Z, hm, rfl, hrow, HP, HS, hB⟩ := hrel
            have HZL : Hid (Z.length = n) := by show _ = _; rw [HP.out.length_eq, HNL.out]
            by_cases hm0 : m = 0
            · subst hm0
              have HS2 : Hid (srt Z (k + 1)) := fun p q h1 h2 => HS.out p q h1 (by omega) (by omega)
              go_wp2_with fail
              go_quiet (fail)
              go_wp2
              go_roundw
              case rel => exact ⟨k + 1, Z, by omega, by omega, by go_num, hrow, HP, HS2, below_drewN hB _⟩
              case measure => simp [intOf]; omega
            · obtain ⟨m', rfl⟩ : ∃ m', m = m' + 1 := ⟨m - 1, by omega⟩
              obtain ⟨x, hx⟩ : ∃ x, Z[m']?.getD 0 = x := ⟨_, rfl⟩
              obtain ⟨y, hy⟩ : ∃ y, Z[m' + 1]?.getD 0 = y := ⟨_, rfl⟩
              have cx := row_cell hrow m' (by omega)
              have cy := row_cell hrow (m' + 1) (by omega)
              rw [hx] at cx
              rw [hy] at cy
              have fx := hrow.frozenAt m'
              have fy := hrow.frozenAt (m' + 1)
              have HX := hid' hx
              have HY := hid' hy
              clear hx hy hm0
              have b0 : (0 : Int) ≤ (m' : Int) := by omega
              have b1 : (m' : Int) < (n : Int) := by omega
              have b2 : (m' : Int) + 1 < (n : Int) := by omega
              have b3 : (0 : Int) < (m' : Int) + 1 := by omega
              by_cases hxy : y < x
              · have HP2 := hid' ((swap_perm Z m' (by have := HZL.out; omega)).trans HP.out)
                have HS2 := hid' (swap_srt HS.out (by have := HZL.out; omega) hm (by rw [HX.out, HY.out]; exact hxy))
                rw [HX.out, HY.out] at HP2 HS2
                go_wp2_with fail
                go_quiet (fail)
                go_wp2_with fail
                go_region
                have hst1 := (ownsRow_drewN (q := nq + 1) hrow).stored m' (.int .i32 y)
                have hst2 := hst1.1.stored (m' + 1) (.int .i32 x)
                have hR2 := hst2.1
                rw [← List.map_set, ← List.map_set] at hR2
                have hg : w.heap.size ≤ g := (hrow.lt g rfl).1
                have hB2 := ((below_drewN hB (nq + 1)).setCell (p := ⟨g, m', none⟩) hg (.int .i32 y)).setCell (p := ⟨g, m' + 1, none⟩) hg (.int .i32 x)
                clear hst1 hst2 hrow cx cy fx fy HX HY HP HS
                go_wp2
                go_roundw
                case rel => exact ⟨m', _, by omega, by go_num, hR2, HP2, HS2, hB2⟩
                case measure => simp [intOf] <;> omega
              · have hxy' : x ≤ y := by omega
                have d1 : decide (y < x) = false := by simpa using hxy'
                have HS2 : Hid (srt Z (k + 1)) := srt_stop HS.out (by rw [HX.out, HY.out]; omega)
                go_wp2_with fail
                go_quiet (fail)
                go_wp2
                go_roundw
                case rel => exact ⟨k + 1, Z, by omega, by omega, by go_num, hrow, HP, HS2, below_drewN hB _⟩
                case measure => simp [intOf]; omega
        · have hkn : k = n := by omega
          subst hkn
          have HZL : Hid (Z.length = k) := by show _ = _; rw [HP.out.length_eq, HNL.out]
          have hlt' : ¬ (k : Int) < (k : Int) := by omega
          have hgl : g < wr.heap.size := (hrow.lt g rfl).2
          have hrowK := hrow
          go_wp2_with fail
          go_loopw [10, 11] (fun v10 i wq => ∃ (j : Nat) (O : List Int), j ≤ k ∧ i = .int .i64 j ∧ wq.ownsRow wr.heap.size 21 1 v10 O.length (O.map (Value.int .i32)) ∧ O.length ≤ j ∧ Hid (O.Pairwise (· < ·)) ∧ Hid (∀ x, x ∈ O ↔ x ∈ Z.take j) ∧ Below wr.heap.size wr wq)
            (fun _ i _ => k - (intOf i).toNat)
          case atStart => exact ⟨0, [], Nat.zero_le _, rfl, World.ownsRow_nil _ _ _ _, Nat.le_refl _, (by show List.Pairwise _ _; simp), (fun x => by simp), Below.refl _ _⟩
          case round =>
            obtain ⟨j, O, hj, rfl, hrow, hOl, HPW, HME, hBq⟩ := hrel
            by_cases hlt : j < k
            · have hjk : (j : Int) < (k : Int) := by omega
              have b0 : (0 : Int) ≤ (j : Int) := by omega
              obtain ⟨y, hy⟩ : ∃ y, Z[j]?.getD 0 = y := ⟨_, rfl⟩
              have cy0 := row_cell hrowK j hlt
              rw [hy] at cy0
              have cy := (hBq.cell (p := ⟨g, j, none⟩) hgl).trans cy0
              have HY := hid' hy
              have HTK : Hid (Z.take (j + 1) = Z.take j ++ [y]) := by show _ = _; rw [take_snoc Z 0 j (by have := HZL.out; omega), hy]
              clear hy cy0
              have fin : ∀ (hnew : ∀ x ∈ O, x < y), (O ++ [y]).Pairwise (· < ·) ∧ ∀ x, x ∈ O ++ [y] ↔ x ∈ Z.take (j + 1) := fun hnew => by
                refine ⟨List.pairwise_append.2 ⟨HPW.out, by simp, fun x hx z hz => by simp at hz; subst hz; exact hnew x hx⟩, fun x => ?_⟩
                rw [HTK.out, List.mem_append, List.mem_append, HME.out]
              have FIN := hid' fin
              clear fin
              by_cases hj0 : j = 0
              · subst hj0
                have hO0 : O = [] := List.length_eq_zero_iff.1 (by omega)
                have HN := hid' (FIN.out (fun x hx => by rw [hO0] at hx; cases hx))
                clear FIN hO0
                go_wp2_with fail
                go_quiet (fail)
                go_wp2_with ((at_builtin; refine wpList_append_ints rfl _ _ rfl _ _ _ O rfl ((ownsRow_drewN (q := nq) hrow).alloc _) _ [y] rfl (IntsAt.new1 _ _ wr.heap.size (by simp)) (by simp only [List.length_cons, List.length_nil]; omega) (Nat.le_trans hBq.size (by simp)) ?_; intro v' w6 hown' hgrow'; refine Hid.out ?_))
                refine hid' ?_
                have hB6 := below_grow ((below_drewN hBq nq).alloc hBq.size _) (Nat.le_trans hBq.size (by simp)) ((ownsRow_drewN (q := nq) hrow).alloc _) hgrow'
                have hl6 : (O ++ [y]).length = O.length + 1 := by simp
                have HL6 := hid' hl6
                have HR6 := hid' (row_snoc hown')
                clear hown' hgrow' hrow hl6 cy
                go_wp2
                go_roundw
                case rel => exact ⟨0 + 1, O ++ [y], by omega, by go_num, HR6.out, by have := HL6.out; omega, HN.out.1, HN.out.2, hB6⟩
                case measure => simp [intOf] <;> omega
              · obtain ⟨j', rfl⟩ : ∃ j', j = j' + 1 := ⟨j - 1, by omega⟩
                obtain ⟨x, hx⟩ : ∃ x, Z[j']?.getD 0 = x := ⟨_, rfl⟩
                have cx0 := row_cell hrowK j' (by omega)
                rw [hx] at cx0
                have cx := (hBq.cell (p := ⟨g, j', none⟩) hgl).trans cx0
                have HX := hid' hx
                have hxy0 : x ≤ y := by have := HS.out j' (j' + 1) (by omega) hlt; rw [hx, HY.out] at this; exact this
                have HLE : Hid (∀ z ∈ O, z ≤ x) := fun z hz => by
                  have hz' := (HME.out z).1 hz
                  obtain ⟨i, hi, rfl⟩ := List.mem_iff_getElem.1 hz'
                  rw [List.length_take] at hi
                  rw [List.getElem_take]
                  by_cases hij : i = j'
                  · subst hij
                    rw [← HX.out, List.getElem?_eq_getElem (by omega)]
                    exact Int.le_refl _
                  · have := HS.out i j' (by omega) (by omega)
                    rw [HX.out, List.getElem?_eq_getElem (by omega)] at this
                    exact this
                clear hx cx0 hj0
                have b1 : (j' : Int) < (k : Int) := by omega
                have b2 : (0 : Int) ≤ (j' : Int) := by omega
                have b3 : (j' : Int) + 1 < (k : Int) := by omega
                have b4 : ((j' : Int) + 1 == 0) = false := by simp; omega
                have b5 : decide ((j' : Int) + 1 = 0) = false := by simp; omega
                by_cases hxy : y = x
                · have hyb : (y == x) = true := by simpa using hxy
                  have HN : Hid (∀ z, z ∈ O ↔ z ∈ Z.take (j' + 1 + 1)) := fun z => by
                    rw [HTK.out, List.mem_append, HME.out]
                    constructor
                    · exact .inl
                    · rintro (h | h)
                      · exact h
                      · simp only [List.mem_singleton] at h
                        rw [h, hxy, ← HX.out, List.getElem?_eq_getElem (by have := HZL.out; omega)]
                        exact List.mem_iff_getElem.2 ⟨j', by rw [List.length_take]; have := HZL.out; omega, by rw [List.getElem_take]; rfl⟩
                  subst hxy
                  clear FIN
                  go_wp2_with fail
                  go_quiet (fail)
                  go_wp2
                  go_roundw
                  case rel => exact ⟨j' + 1 + 1, O, by omega, by go_num, hrow, by omega, HPW, HN, below_drewN hBq _⟩
                  case measure => simp [intOf] <;> omega
                · have hyb : (y == x) = false := by simpa using hxy
                  have hyn : (y != x) = true := by simpa using hxy
                  have HN := hid' (FIN.out (fun z hz => by have := HLE.out z hz; omega))
                  clear FIN HLE
                  go_wp2_with fail
                  go_quiet (fail)
                  go_wp2_with ((at_builtin; refine wpList_append_ints rfl _ _ rfl _ _ _ O rfl ((ownsRow_drewN (q := nq) hrow).alloc _) _ [y] rfl (IntsAt.new1 _ _ wr.heap.size (by simp)) (by simp only [List.length_cons, List.length_nil]; omega) (Nat.le_trans hBq.size (by simp)) ?_; intro v' w6 hown' hgrow'; refine Hid.out ?_))
                  refine hid' ?_
                  have hB6 := below_grow ((below_drewN hBq nq).alloc hBq.size _) (Nat.le_trans hBq.size (by simp)) ((ownsRow_drewN (q := nq) hrow).alloc _) hgrow'
                  have hl6 : (O ++ [y]).length = O.length + 1 := by simp
                  have HL6 := hid' hl6
                  have HR6 := hid' (row_snoc hown')
                  clear hown' hgrow' hrow hl6 cy
                  go_wp2
                  go_roundw
                  case rel => exact ⟨j' + 1 + 1, O ++ [y], by omega, by go_num, HR6.out, by have := HL6.out; omega, HN.out.1, HN.out.2, hB6⟩
                  case measure => simp [intOf] <;> omega
            · have hjj : j = k := by omega
              have hjk : ¬ (j : Int) < (k : Int) := by omega
              have HM2 : Hid (∀ x, x ∈ O ↔ x ∈ start c) := fun x => by
                rw [HME.out, hjj, List.take_of_length_le (by rw [HZL.out]; exact Nat.le_refl _), HP.out.mem_iff, HSS.out]
              clear hjj
              go_wp2
              go_ret
              exact ⟨_, rfl, O, HPW.out, HM2.out, by omega, Go.Joins.ownsRow_le hrow hB.size, hB.trans (hBq.mono hB.size)⟩
end Go.Proofs.YtlgnnljleooenaaDoor
