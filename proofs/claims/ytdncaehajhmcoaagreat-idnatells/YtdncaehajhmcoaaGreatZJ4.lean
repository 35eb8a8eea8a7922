/- Texts of one layer, one behind the other: JC. -/
import Derived.Test.YtdncaehajhmcoaaGreatZJ3
/- The document's Split: a row of rows. -/
namespace Go.Proofs.YtdncaehajhmcoaaGreat.I
open Go.RowKit
set_option linter.unusedVariables false

theorem infoR : (Tryz.prog.info? 34).map (fun i => (i.zero, i.size, i.bytes)) = some (some (.slice none 0 0), 1, 24) := by kernel_rfl
theorem own_sh22 {base n : Nat} {v : Value} {X : List Value} {W : World} (h : W.ownsRow base 34 1 v n X) : ∃ a cap, v = .slice a n cap := by
  rcases h.2 with ⟨rfl, h0⟩ | ⟨g, cap, cur, rfl, _⟩
  · exact ⟨none, 0, by rw [h0]⟩
  · exact ⟨_, cap, rfl⟩
/-- Labels, as slices. -/
def Els (W : World) (vs : List Value) (ls : List (List Int)) : Prop := vs.length = ls.length ∧ ∀ i, i < ls.length → El W (vs[i]?.getD undef) (ls[i]?.getD [])
theorem Els.nil (W : World) : Els W [] [] := ⟨rfl, fun i hi => by simp at hi⟩
theorem Els.snoc {W : World} {vs : List Value} {ls : List (List Int)} {u : Value} {l : List Int} (h : Els W vs ls) (hu : El W u l) : Els W (vs ++ [u]) (ls ++ [l]) := by
  refine ⟨by simp [h.1], fun i hi => ?_⟩
  by_cases e : i < ls.length
  · rw [List.getElem?_append_left (by rw [h.1]; exact e), List.getElem?_append_left e]
    exact h.2 i e
  · have e2 : i = ls.length := by simp at hi; omega
    subst e2
    rw [List.getElem?_append_right (by rw [h.1]; exact Nat.le_refl _), List.getElem?_append_right (Nat.le_refl _), h.1, Nat.sub_self]
    exact hu
theorem Els.below {W W' : World} {vs : List Value} {ls : List (List Int)} (h : Els W vs ls) (hb : Below W.heap.size W W') : Els W' vs ls := ⟨h.1, fun i hi => (h.2 i hi).below hb⟩
/-- A row of another kind that is written leaves a label. -/
theorem El.kept {W W' : World} {u : Value} {l : List Int} {base e size n : Nat} {v : Value} {X : List Value} (h : El W u l) (hown : W.ownsRow base e size v n X) (he : e ≠ 21) (hg : W.grownBy W' v.ownBlock) : El W' u l := by
  refine ⟨?_, h.2⟩
  obtain ⟨a, cap, e1, f⟩ := h.1
  refine ⟨a, cap, e1, fun hp => ?_⟩
  obtain ⟨b, off, cur, e2, g, hc⟩ := f hp
  refine ⟨b, off, cur, e2, (hg.block b (Array.getElem?_eq_some_iff.1 g).1 (fun e' => ?_)).trans g, hc⟩
  rcases hown.2 with ⟨rfl, _⟩ | ⟨g2, cap2, cur2, rfl, _, hg2, _⟩
  · simp [Value.ownBlock] at e'
  · have e3 : g2 = b := by simpa [Value.ownBlock] using e'.symm
    subst e3
    rw [g] at hg2
    cases hg2
    exact he rfl
theorem Els.kept {W W' : World} {vs : List Value} {ls : List (List Int)} {base e size n : Nat} {v : Value} {X : List Value} (h : Els W vs ls) (hown : W.ownsRow base e size v n X) (he : e ≠ 21) (hg : W.grownBy W' v.ownBlock) : Els W' vs ls := ⟨h.1, fun i hi => (h.2 i hi).kept hown he hg⟩
theorem wpList_append_row {w : World} {ops : Array Oper} {rest : List Oper} {o : Oper} {a : Act} {Q : Exit → Act → World → Prop} (hgd : o.guard = none) (s x : Operand)
    (ho : o.op = .call { callee := .builtin .append, args := #[s, x], argTypes := #[28, 28] }) (base : Nat) (v : Value) (n : Nat) (vs : List Value) (hs : a.eval s = v) (hown : w.ownsRow base 34 1 v n vs)
    (ad : Addr) (u : Value) (hx : a.eval x = .slice (some ad) 1 1) (hu : w.cell? ad = some u) (hsl : ∃ p m c, u = .slice p m c) (hbd : n ≤ 100000) (hbase : base ≤ w.heap.size)
    (h : ∀ v' w', w'.ownsRow base 34 1 v' (n + 1) (vs ++ [u]) → w.grownBy w' v.ownBlock → wpList Tryz.prog ops Q rest (a.put o.dst v') w') : wpList Tryz.prog ops Q (o :: rest) a w := by
  obtain ⟨i0, hi, hz0, hz1, hz2⟩ := info_parts infoR
  obtain ⟨p, m, c, rfl⟩ := hsl
  refine wpList_append_own w hgd s x 28 ho base 34 i0 (.slice none 0 0) 1 24 Tryz.underlying28 hi hz0 hz1 hz2 rfl (by decide) v n _ hs hown ad 1 1 [.slice p m c] hx rfl ?_ ?_ (by unfold maxLen; omega) (by omega) hbase (fun v' w' h1 h2 _ => h v' w' h1 h2)
  · intro j y hj
    have hj0 : j = 0 := by
      have := (List.getElem?_eq_some_iff.1 hj).1
      simpa using this
    subst hj0
    simp at hj
    subst hj
    simpa [Addr.add] using hu
  · intro y hy
    simp at hy
    subst hy
    rfl

/-! ### Where the splitting stands -/
def prep (cur : List Int) : List (List Int) → List (List Int)
  | [] => [cur]
  | a :: t => (cur ++ a) :: t
theorem prep_nil (l : List Int) : prep [] (spl l) = spl l := by
  obtain ⟨a, t, h⟩ := spl_ne l
  rw [h]; rfl
theorem prep_dot (cur l : List Int) : prep cur (spl (46 :: l)) = cur :: spl l := by
  rw [spl, if_pos rfl]; simp [prep]
theorem prep_more (cur l : List Int) (c : Int) (h : ¬ c = 46) : prep cur (spl (c :: l)) = prep (cur ++ [c]) (spl l) := by
  obtain ⟨a, t, hs⟩ := spl_ne l
  rw [spl, if_neg h, hs]; simp [prep]
theorem drop_at (l : List Int) (k : Nat) (h : k < l.length) : l.drop k = l[k]?.getD 0 :: l.drop (k + 1) := by
  rw [List.drop_eq_getElem_cons h, List.getElem?_eq_getElem h]; rfl
structure Sp (w wB wr : World) (vo : Value) (mo : Nat) (v1 : Value) (m1 : Nat) (vs : List Value) (done : List (List Int)) (cur : List Int) : Prop where
  b1 : Below w.heap.size w wB
  out : wB.ownsRow w.heap.size 34 1 vo mo vs
  els : Els wB vs done
  b2 : Below wB.heap.size wB wr
  one : wr.ownsRow wB.heap.size 21 1 v1 m1 (cur.map (Value.int .i32))
  mo : mo = done.length
  m1 : m1 = cur.length
theorem Sp.reset {w wB wr w' : World} {vo vo' v1 : Value} {mo m1 : Nat} {vs : List Value} {done : List (List Int)} {cur : List Int} (h : Sp w wB wr vo mo v1 m1 vs done cur)
    (hown : w'.ownsRow w.heap.size 34 1 vo' (mo + 1) (vs ++ [v1])) (hg : (wr.alloc (.cells #[v1] 34)).grownBy w' vo.ownBlock) : Sp w w' w' vo' (mo + 1) (.slice none 0 0) 0 (vs ++ [v1]) (done ++ [cur]) [] := by
  have ba := (Below.refl wr.heap.size wr).alloc (Nat.le_refl _) (.cells #[v1] 34)
  have ho := U.ownsRow_below h.out h.b2 (Nat.le_refl _)
  have ho2 := ho.alloc (.cells #[v1] 34)
  have b1 := h.b1.trans (h.b2.mono h.b1.size)
  refine ⟨U.below_grow (b1.alloc b1.size _) (Nat.le_trans b1.size (by simp)) ho2 hg, hown, ?_, Below.refl _ _, World.ownsRow_nil _ _ _ _, by rw [List.length_append, ← h.mo]; rfl, rfl⟩
  exact (((h.els.below h.b2).below ba).kept ho2 (by decide) hg).snoc (((El.own h.m1 h.one).below ba).kept ho2 (by decide) hg)
theorem Sp.put {w wB wr w' : World} {vo v1 v1' : Value} {mo m1 : Nat} {vs : List Value} {done : List (List Int)} {cur : List Int} {c : Int} (h : Sp w wB wr vo mo v1 m1 vs done cur)
    (hown : w'.ownsRow wB.heap.size 21 1 v1' (m1 + 1) ((cur ++ [c]).map (Value.int .i32))) (hg : (wr.alloc (.cells #[.int .i32 c] 21)).grownBy w' v1.ownBlock) : Sp w wB w' vo mo v1' (m1 + 1) vs done (cur ++ [c]) :=
  ⟨h.b1, h.out, h.els, U.below_grow (h.b2.alloc h.b2.size _) (Nat.le_trans h.b2.size (by simp)) (h.one.alloc _) hg, hown, h.mo, by rw [List.length_append, ← h.m1]; rfl⟩
/-- It answers these rows. -/
def GivesR (ls : List (List Int)) (w : World) (e : Ending) (W' : World) : Prop := ∃ v vs, e = .returned v ∧ W'.ownsRow w.heap.size 34 1 v ls.length vs ∧ Els W' vs ls ∧ Below w.heap.size w W'
set_option maxRecDepth 100000 in
set_option maxHeartbeats 8000000 in
theorem rsplit_any (v : Value) (l : List Int) (w : World) (hlen : l.length ≤ 10000) (hv : U.IntsAt w v l) :
    Calls Tryz.prog 20 #[v] w fun e W' => GivesR (spl l) w e W' := by
  obtain ⟨a, c, rfl, hf⟩ := L.ints_form hv
  have HF := hid hf
  obtain ⟨n, hn⟩ : ∃ n, l.length = n := ⟨_, rfl⟩
  have HN := hid hn
  rw [hn] at hlen HF ⊢
  obtain ⟨S, hS⟩ : ∃ S, spl l = S := ⟨_, rfl⟩
  have HS0 : Hid (S = [] ++ prep [] (spl (l.drop 0))) := by show _ = _; rw [List.drop_zero, prep_nil, ← hS]; rfl
  rw [hS]
  clear hv hf hn hS
  go_enter Tryz.func20, Tryz.ntmps20
  go_wp2_with fail
  go_loopw [3, 4, 5] (fun v3 v4 v5 wr => ∃ (k mo co m1 c1 : Nat) (ao a1 : Option Addr) (vs : List Value) (done : List (List Int)) (cur : List Int) (wB : World), k ≤ n + 1 ∧ mo ≤ k ∧ m1 ≤ k ∧ v3 = .slice ao mo co ∧ v4 = .slice a1 m1 c1 ∧ v5 = .int .i64 k ∧ Hid (Sp w wB wr (.slice ao mo co) mo (.slice a1 m1 c1) m1 vs done cur) ∧ Hid ((k ≤ n → S = done ++ prep cur (spl (l.drop k))) ∧ (k = n + 1 → S = done))) (fun _ _ v5 _ => n + 1 - (intOf v5).toNat)
  case atStart => exact ⟨0, 0, 0, 0, 0, none, none, [], [], [], w, by omega, Nat.le_refl _, Nat.le_refl _, rfl, rfl, rfl, ⟨Below.refl _ _, World.ownsRow_nil _ _ _ _, Els.nil _, Below.refl _ _, World.ownsRow_nil _ _ _ _, rfl, rfl⟩, ⟨fun _ => HS0.out, fun h => by omega⟩⟩
  case round =>
    obtain ⟨k, mo, co, m1, c1, ao, a1, vs, done, cur, wB, hk, hmo, hm1, rfl, rfl, rfl, HSp, HI⟩ := hrel
    by_cases hle : k ≤ n
    · have HIk := hid (HI.out.1 hle)
      have zb := HSp.out.b1.size
      have zr := HSp.out.b2.size
      have hB := HSp.out.b1.trans (HSp.out.b2.mono HSp.out.b1.size)
      have HOUT := hid (U.ownsRow_below HSp.out.out HSp.out.b2 (Nat.le_refl _))
      have HONE := hid HSp.out.one
      by_cases hend : k = n
      · have hkz : (k : Int) = (n : Int) := by omega
        have HNX : Hid (S = done ++ [cur]) := by
          show _ = _
          rw [HIk.out, hend, List.drop_of_length_le (by rw [HN.out]; exact Nat.le_refl _)]
          simp [spl, prep]
        subst hend
        clear hkz
        go_wp2_with (at_builtin; refine wpList_append_row rfl _ _ rfl w.heap.size _ mo vs rfl (HOUT.out.alloc _) ⟨wr.heap.size, 0, none⟩ (.slice a1 m1 c1) rfl (Boxed.new wr 34 (.slice a1 m1 c1)).cell ⟨_, _, _, rfl⟩ (by omega) (by simp; omega) ?_; intro v7 w7 r7 g7; obtain ⟨a7, c7, rfl⟩ := own_sh22 r7)
        go_roundw
        case rel => exact ⟨k + 1, mo + 1, c7, 0, 0, a7, none, vs ++ [Value.slice a1 m1 c1], done ++ [cur], [], w7, by omega, by omega, by omega, rfl, rfl, by go_num, HSp.out.reset r7 g7, ⟨fun h => by omega, fun _ => HNX.out⟩⟩
        case measure => first | (simp [intOf]; done) | (simp [intOf]; omega)
      · have hlt : k < n := by omega
        have hkz : ¬ ((k : Int) = (n : Int)) := by omega
        have hkb : ((k : Int) == (n : Int)) = false := by simpa using hkz
        obtain ⟨b, off, rfl, hck⟩ := L.cell_at HF.out hB k hlt
        have HDR := hid (drop_at l k (by rw [HN.out]; exact hlt))
        obtain ⟨x, hx⟩ : ∃ x, l[k]?.getD 0 = x := ⟨_, rfl⟩
        rw [hx] at hck HDR
        clear hx
        by_cases h46 : x = 46
        · have HNX : Hid (S = (done ++ [cur]) ++ prep [] (spl (l.drop (k + 1)))) := by
            show _ = _
            rw [HIk.out, HDR.out, h46, prep_dot, prep_nil]; simp
          subst h46
          go_wp2_with (at_builtin; refine wpList_append_row rfl _ _ rfl w.heap.size _ mo vs rfl (HOUT.out.alloc _) ⟨wr.heap.size, 0, none⟩ (.slice a1 m1 c1) rfl (Boxed.new wr 34 (.slice a1 m1 c1)).cell ⟨_, _, _, rfl⟩ (by omega) (by simp; omega) ?_; intro v7 w7 r7 g7; obtain ⟨a7, c7, rfl⟩ := own_sh22 r7)
          go_roundw
          case rel => exact ⟨k + 1, mo + 1, c7, 0, 0, a7, none, vs ++ [Value.slice a1 m1 c1], done ++ [cur], [], w7, by omega, by omega, by omega, rfl, rfl, by go_num, HSp.out.reset r7 g7, ⟨fun _ => HNX.out, fun h => by omega⟩⟩
          case measure => first | (simp [intOf]; done) | (simp [intOf]; omega)
        · have h46b : (x == 46) = false := by simpa using h46
          have HNX : Hid (S = done ++ prep (cur ++ [x]) (spl (l.drop (k + 1)))) := by
            show _ = _
            rw [HIk.out, HDR.out, prep_more _ _ _ h46]
          go_wp2_with (at_builtin; refine U.wpList_append_ints rfl _ _ rfl wB.heap.size _ m1 cur rfl (HONE.out.alloc _) _ [x] rfl (.inr ⟨⟨wr.heap.size, 0, none⟩, 1, rfl, fun j hj => by (have hj0 : j = 0 := by (simp only [List.length_cons, List.length_nil] at hj; omega)); subst hj0; rw [U.addr_add0]; exact (Boxed.new wr 21 (.int .i32 x)).cell⟩) (by simp only [List.length_cons, List.length_nil]; omega) (by simp; omega) ?_; intro v7 w7 r7 g7; simp only [List.length_cons, List.length_nil, Nat.zero_add] at r7; obtain ⟨a7, c7, rfl⟩ := own_sh21 r7)
          go_roundw
          case rel => exact ⟨k + 1, mo, co, m1 + 1, c7, ao, a7, vs, done, cur ++ [x], wB, by omega, by omega, by omega, rfl, rfl, by go_num, HSp.out.put r7 g7, ⟨fun _ => HNX.out, fun h => by omega⟩⟩
          case measure => first | (simp [intOf]; done) | (simp [intOf]; omega)
    · have hkn : k = n + 1 := by omega
      have HE := hid (HI.out.2 hkn)
      have hkz : ¬ ((k : Int) ≤ (n : Int)) := by omega
      go_wp2
      go_ret
      refine ⟨_, vs, rfl, ?_, ?_, HSp.out.b1.trans (HSp.out.b2.mono HSp.out.b1.size)⟩
      · rw [HE.out, ← HSp.out.mo]
        exact U.ownsRow_below HSp.out.out HSp.out.b2 (Nat.le_refl _)
      · rw [HE.out]; exact HSp.out.els.below HSp.out.b2
end Go.Proofs.YtdncaehajhmcoaaGreat.I
