/- append on slices of spans and of code points; the contracts of the statements' own copied, many and same. -/
import Derived.Test.YtlgnnljleooenaaDoorA
import Derived.Laws.StructEq
namespace Go.Proofs.YtlgnnljleooenaaDoor
open Go.RowKit
set_option linter.unusedVariables false

theorem addr_add (g o j : Nat) : ((⟨g, o, none⟩ : Addr).add j) = ⟨g, o + j, none⟩ := by
  unfold Addr.add
  by_cases h : j = 0
  · subst h; rfl
  · rw [if_neg h]
theorem Tryd.info44 : (Tryd.prog.info? 44).map (fun i => (i.zero, i.size, i.bytes)) = some (some (.agg #[.int .i32 0, .int .i32 0]), 2, 8) := by kernel_rfl
theorem flat2_at (l : List Sp) (j : Nat) (y : Value) (h : (flat2 l)[j]? = some y) : j / 2 < l.length ∧ ((j % 2 = 0 ∧ y = .int .i32 (l[j / 2]?.getD (0, 0)).1) ∨ (j % 2 = 1 ∧ y = .int .i32 (l[j / 2]?.getD (0, 0)).2)) := by
  have hl : j < (flat2 l).length := (List.getElem?_eq_some_iff.1 h).1
  rw [flat2_len] at hl
  have hj : j / 2 < l.length := by omega
  refine ⟨hj, ?_⟩
  have g := flat2_get l (j / 2) hj
  rcases Nat.mod_two_eq_zero_or_one j with h0 | h1
  · left
    refine ⟨h0, ?_⟩
    have e : j / 2 * 2 = j := by omega
    rw [e, h] at g
    exact Option.some.inj g.1
  · right
    refine ⟨h1, ?_⟩
    have e : j / 2 * 2 + 1 = j := by omega
    rw [e, h] at g
    exact Option.some.inj g.2

theorem wpList_append_spans {w : World} {ops : Array Oper} {rest : List Oper} {o : Oper} {a : Act} {Q : Exit → Act → World → Prop} (hgd : o.guard = none) (s x : Operand)
    (ho : o.op = .call { callee := .builtin .append, args := #[s, x], argTypes := #[22, 22] }) (base : Nat) (v : Value) (n : Nat) (ys : List Sp) (hs : a.eval s = v) (hown : w.ownsRow base 44 2 v n (flat2 ys))
    (u : Value) (zs : List Sp) (hx : a.eval x = u) (hu : SpansAt w u zs) (hbd : n + zs.length ≤ 17179869184) (hbase : base ≤ w.heap.size)
    (h : ∀ v' w', w'.ownsRow base 44 2 v' (n + zs.length) (flat2 (ys ++ zs)) → w.grownBy w' v.ownBlock → wpList Tryd.prog ops Q rest (a.put o.dst v') w') : wpList Tryd.prog ops Q (o :: rest) a w := by
  obtain ⟨i0, hi, hz0, hz1, hz2⟩ := info_parts Tryd.info44
  obtain ⟨ad, cap, rfl, hcap, hc⟩ := hu
  rcases ad with _ | ad
  · have h0 : zs = [] := by
      rcases zs with _ | ⟨z, zs⟩
      · rfl
      · obtain ⟨b, off, e, _⟩ := hc (by simp); cases e
    subst h0
    rw [hcap rfl] at hx
    exact wpList_append_own_none hgd s x 22 ho base 44 i0 2 Tryd.underlying22 hi v n _ hs hown hx (h v w (by simpa using hown) ⟨rfl, rfl, rfl, Nat.le_refl _, fun _ _ _ => rfl⟩)
  · refine wpList_append_own w hgd s x 22 ho base 44 i0 (.agg #[.int .i32 0, .int .i32 0]) 2 8 Tryd.underlying22 hi hz0 hz1 hz2 rfl (by decide) v n _ hs hown ad zs.length cap (flat2 zs) hx (flat2_len zs) ?_ (flat2_one zs) (by unfold maxLen; omega) (by omega) hbase (fun v' w' h1 h2 _ => h v' w' (by rw [flat2_append]; exact h1) h2)
    intro j y hj
    obtain ⟨hlt, hcase⟩ := flat2_at zs j y hj
    obtain ⟨b, off, e, hcell⟩ := hc (by omega)
    obtain rfl : ad = ⟨b, off, none⟩ := Option.some.inj e
    have g := hcell (j / 2) hlt
    rw [addr_add]
    rcases hcase with ⟨h0, rfl⟩ | ⟨h1, rfl⟩
    · have e : off + j / 2 * 2 = off + j := by omega
      rw [e] at g
      exact g.1
    · have e : off + j / 2 * 2 + 1 = off + j := by omega
      rw [e] at g
      exact g.2

theorem wpList_append_ints {w : World} {ops : Array Oper} {rest : List Oper} {o : Oper} {a : Act} {Q : Exit → Act → World → Prop} (hgd : o.guard = none) (s x : Operand)
    (ho : o.op = .call { callee := .builtin .append, args := #[s, x], argTypes := #[41, 41] }) (base : Nat) (v : Value) (n : Nat) (ys : List Int) (hs : a.eval s = v) (hown : w.ownsRow base 21 1 v n (ys.map (Value.int .i32)))
    (u : Value) (zs : List Int) (hx : a.eval x = u) (hu : IntsAt w u zs) (hbd : n + zs.length ≤ 17179869184) (hbase : base ≤ w.heap.size)
    (h : ∀ v' w', w'.ownsRow base 21 1 v' (n + zs.length) ((ys ++ zs).map (Value.int .i32)) → w.grownBy w' v.ownBlock → wpList Tryd.prog ops Q rest (a.put o.dst v') w') : wpList Tryd.prog ops Q (o :: rest) a w := by
  obtain ⟨i0, hi, hz0, hz1, hz2⟩ := info_parts Tryd.info21
  obtain ⟨ad, cap, rfl, ⟨hcap, -⟩, hc⟩ := hu
  rcases ad with _ | ad
  · have h0 : zs = [] := by
      rcases zs with _ | ⟨z, zs⟩
      · rfl
      · obtain ⟨b, off, e, _⟩ := hc (by simp); cases e
    subst h0
    rw [hcap rfl] at hx
    exact wpList_append_own_none hgd s x 41 ho base 21 i0 1 Tryd.underlying41 hi v n _ hs hown hx (h v w (by simpa using hown) ⟨rfl, rfl, rfl, Nat.le_refl _, fun _ _ _ => rfl⟩)
  · refine wpList_append_own w hgd s x 41 ho base 21 i0 (.int .i32 0) 1 4 Tryd.underlying41 hi hz0 hz1 hz2 rfl (by decide) v n _ hs hown ad zs.length cap (zs.map (Value.int .i32)) hx (by simp) ?_ ?_ (by unfold maxLen; omega) (by omega) hbase (fun v' w' h1 h2 _ => h v' w' (by simpa using h1) h2)
    · intro j y hj
      rw [List.getElem?_map] at hj
      obtain ⟨c', hc', rfl⟩ := Option.map_eq_some_iff.1 hj
      have hj' := (List.getElem?_eq_some_iff.1 hc').1
      obtain ⟨b, off, e, hcell⟩ := hc (by omega)
      obtain rfl : ad = ⟨b, off, none⟩ := Option.some.inj e
      rw [addr_add, hcell j hj', hc']; rfl
    · intro y hy
      obtain ⟨c', _, rfl⟩ := List.mem_map.1 hy
      rfl

set_option maxRecDepth 100000 in
set_option maxHeartbeats 1000000 in
theorem copied_any (v : Value) (l : List Sp) (hlen : l.length ≤ 17179869184) (w : World) (hv : SpansAt w v l) :
    Calls Tryd.prog 10 #[v] w fun e W' => ∃ v', e = .returned v' ∧ W'.ownsRow w.heap.size 44 2 v' l.length (flat2 l) ∧ Below w.heap.size w W' := by
  go_enter Tryd.func10, Tryd.ntmps10
  go_wp2_with (at_builtin; refine wpList_append_spans rfl _ _ rfl w.heap.size _ _ [] rfl (World.ownsRow_nil _ _ _ _) _ l rfl hv (by omega) (Nat.le_refl _) ?_; intro v' w1 hown' hgrow)
  go_ret
  exact ⟨v', rfl, by simpa using hown', below_grow (e := 44) (size := 2) (Below.refl _ _) (Nat.le_refl _) (World.ownsRow_nil _ _ _ _) hgrow⟩

theorem many_any (v : Value) (l : List Sp) (hlen : l.length ≤ 140737488355328) (w : World) (hv : SpansAt w v l) :
    Calls Tryd.prog 8 #[v] w fun e W' => e = .returned (.bool (decide (1084 < l.length))) ∧ W' = w := by
  obtain ⟨a, cap, rfl, -, -⟩ := hv
  go_enter Tryd.func8, Tryd.ntmps8
  go_wp2
  go_ret
  refine ⟨?_, rfl⟩
  apply ret_bool
  by_cases h : 1084 < l.length <;> simp [h] <;> omega

theorem run_neq44 (x y x2 y2 : Int) (w : World) : (binOp .neq 44 (.agg #[.int .i32 x, .int .i32 y]) (.agg #[.int .i32 x2, .int .i32 y2])).run Tryd.prog w = .ok (.bool (!(x == x2 && y == y2))) w := by
  rw [run_neq_struct, run_equalIn_struct w 9999 44 _ _ (by kernel_rfl) (by kernel_rfl)]
  have hf : (Tryd.prog.fieldsOf 44).toList.map (fun f => (f.name, f.type, f.offset)) = [("Lo", 21, 0), ("Hi", 21, 1)] := by kernel_rfl
  obtain ⟨f, g, hfg, h1, h2⟩ : ∃ f g, (Tryd.prog.fieldsOf 44).toList = [f, g] ∧ (f.name, f.type, f.offset) = ("Lo", 21, 0) ∧ (g.name, g.type, g.offset) = ("Hi", 21, 1) := by
    generalize (Tryd.prog.fieldsOf 44).toList = L at hf
    rcases L with _ | ⟨f, _ | ⟨g, _ | ⟨h, L⟩⟩⟩ <;> simp at hf
    exact ⟨f, g, rfl, by simp [hf], by simp [hf]⟩
  simp only [Prod.mk.injEq] at h1 h2
  rw [hfg]
  have e1 : ∀ W x y, (part 21 #[Value.int .i32 x, .int .i32 y] 0).run Tryd.prog W = .ok (.int .i32 x) W := fun W x y => by
    go_simp
  have e2 : ∀ W x y, (part 21 #[Value.int .i32 x, .int .i32 y] 1).run Tryd.prog W = .ok (.int .i32 y) W := fun W x y => by
    go_simp
  have e3 : ∀ W a b, (Op.equalIn 9999 21 (.int .i32 a) (.int .i32 b)).run Tryd.prog W = .ok (a == b) W := fun W a b => run_equalIn_int W 9998 21 .i32 .i32 a b Tryd.underlying21
  simp [Op.eqFields, h1, h2, e1, e2, e3, Result.andThen]
  by_cases hx : x = x2 <;> by_cases hy : y = y2 <;> simp [hx, hy]

theorem prefix_eq {α : Type} (d : α) (a b : List α) (hl : a.length = b.length) (h : ∀ j, j < a.length → a[j]?.getD d = b[j]?.getD d) : a = b := by
  refine List.ext_getElem hl fun i h1 h2 => ?_
  have := h i h1
  rw [List.getElem?_eq_getElem h1, List.getElem?_eq_getElem h2] at this
  exact this

set_option maxRecDepth 100000 in
set_option maxHeartbeats 2000000 in
theorem same_any (v u : Value) (l m : List Sp) (hlen : l.length ≤ 140737488355328) (hlen2 : m.length ≤ 140737488355328) (w : World) (hv : SpansAt w v l) (hu : SpansAt w u m) :
    Calls Tryd.prog 18 #[v, u] w fun e W' => e = .returned (.bool (decide (l = m))) ∧ ∃ n, W' = w.drewN n := by
  obtain ⟨a, cap, rfl, -, hs⟩ := hv
  obtain ⟨a2, cap2, rfl, -, hs2⟩ := hu
  by_cases hl : l.length = m.length
  · have HM : Hid (l.length = m.length) := hl
    obtain ⟨n, hn⟩ : ∃ n, n = l.length := ⟨_, rfl⟩
    have HN : Hid (n = l.length) := hn
    rw [← hl] at hs2 hlen2 ⊢
    rw [← hn] at hs hs2 hlen ⊢
    clear hn hl hlen2
    go_enter Tryd.func18, Tryd.ntmps18
    go_wp2_with fail
    go_loopw [5] (fun i wr => ∃ k : Nat, k ≤ n ∧ i = .int .i64 k ∧ (∀ j, j < k → l[j]?.getD (0, 0) = m[j]?.getD (0, 0)) ∧ ∃ q, wr = w.drewN q)
      (fun i _ => n - (intOf i).toNat)
    case atStart => exact ⟨0, Nat.zero_le _, rfl, fun j hj => by omega, 0, rfl⟩
    case round =>
      obtain ⟨k, hk, rfl, hall, q, rfl⟩ := hrel
      have HA : Hid (∀ j, j < k → l[j]?.getD (0, 0) = m[j]?.getD (0, 0)) := hall
      clear hall
      by_cases hlt : k < n
      · obtain ⟨b, off, rfl, hc⟩ := hs (by omega)
        obtain ⟨b2, off2, rfl, hc2⟩ := hs2 (by omega)
        have hck := hc k hlt
        have hck2 := hc2 k hlt
        clear hc hc2 hs hs2
        obtain ⟨x, y, HX⟩ : ∃ x y, Hid (l[k]?.getD (0, 0) = (x, y)) := ⟨_, _, Prod.ext rfl rfl⟩
        obtain ⟨x2, y2, HX2⟩ : ∃ x y, Hid (m[k]?.getD (0, 0) = (x, y)) := ⟨_, _, Prod.ext rfl rfl⟩
        rw [HX.out] at hck
        rw [HX2.out] at hck2
        obtain ⟨c1, c2⟩ := hck
        obtain ⟨c3, c4⟩ := hck2
        dsimp only at c1 c2 c3 c4
        have b0 : (0 : Int) ≤ (k : Int) := by omega
        have b1 : (k : Int) < (n : Int) := by omega
        have hg : ∀ W, (eqGuard .neq 44 (.tmp 20) (.tmp 24) (.agg #[.int .i32 x, .int .i32 y]) (.agg #[.int .i32 x2, .int .i32 y2])).run Tryd.prog W = .ok () W := fun W => run_eqGuard_agg W _ _ _ _ _ _ (by kernel_rfl)
        by_cases hxy : x = x2 ∧ y = y2
        · have hn : ∀ W, (binOp .neq 44 (.agg #[.int .i32 x, .int .i32 y]) (.agg #[.int .i32 x2, .int .i32 y2])).run Tryd.prog W = .ok (.bool false) W := fun W => by
            rw [run_neq44]; simp [hxy.1, hxy.2]
          have HE : Hid (x = x2 ∧ y = y2) := hxy
          clear hxy
          go_wp2_with fail
          go_quiet (fail)
          go_wp2
          go_roundw
          case rel =>
            refine ⟨k + 1, by omega, by go_num, fun j hj => ?_, _, rfl⟩
            by_cases hjk : j = k
            · subst hjk; rw [HX.out, HX2.out, HE.out.1, HE.out.2]
            · exact HA.out j (by omega)
          case measure => simp [intOf]; omega
        · have hn : ∀ W, (binOp .neq 44 (.agg #[.int .i32 x, .int .i32 y]) (.agg #[.int .i32 x2, .int .i32 y2])).run Tryd.prog W = .ok (.bool true) W := fun W => by
            rw [run_neq44]
            by_cases h1 : x = x2
            · have h2 : ¬ y = y2 := fun h => hxy ⟨h1, h⟩
              simp [h1, h2]
            · simp [h1]
          have HO : Hid (decide (l = m) = false) := by
            show decide (l = m) = false
            rw [decide_eq_false_iff_not]; intro e
            have h1 := HX.out
            rw [e, HX2.out] at h1
            simp only [Prod.mk.injEq] at h1
            exact hxy ⟨h1.1.symm, h1.2.symm⟩
          clear hxy
          go_wp2_with fail
          go_quiet (fail)
          go_wp2
          go_ret
          exact ⟨by rw [HO.out]; rfl, _, World.drewN_drewN _ _ _⟩
      · have HO : Hid (decide (l = m) = true) := by
          show decide (l = m) = true
          rw [decide_eq_true_eq]
          exact prefix_eq (0, 0) l m HM.out (fun j hj => HA.out j (by have := HN.out; omega))
        go_wp2
        go_ret
        exact ⟨by rw [HO.out]; rfl, _, rfl⟩
  · have HO : Hid (decide (l = m) = false) := by
      show decide (l = m) = false
      rw [decide_eq_false_iff_not]; intro e; exact hl (by rw [e])
    have hne : (l.length : Int) ≠ (m.length : Int) := by omega
    clear hl
    go_enter Tryd.func18, Tryd.ntmps18
    go_wp2
    go_ret
    exact ⟨by rw [HO.out]; rfl, 0, rfl⟩
end Go.Proofs.YtlgnnljleooenaaDoor
