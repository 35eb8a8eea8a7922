/- Texts of one layer, one behind the other: NOB NCA NCB. -/
import Derived.Test.YtpkegjbmnilmdaaDoorZN5
import Derived.Test.YtpkegjbmnilmdaaDoorZN6
import Derived.Deep.OwnRows
import Derived.Deep.Cut
import Derived.Deep.CutRange
/- The contract of ordered. -/
namespace Go.Proofs.YtpkegjbmnilmdaaDoor.N
open Go.RowKit Go.Shelf
set_option linter.unusedVariables false
attribute [local go_sem] Oper.semAt_some

theorem Feeds.later {g : Nat} {lb : Array Value} {xs : List Int} {w V : World} (h : Feeds g lb xs w) (hb : Below w.heap.size w V) : Feeds g lb xs V :=
  fun l J W hW hJ hY h0 n => h l J W (hb.trans (hW.mono hb.size)) hJ hY h0 n
theorem Tryd.info87 : (Tryd.prog.info? 87).map (fun i => (i.zero, i.size, i.bytes)) = some (some (.agg #[.int .i32 0, .int .u8 0]), 2, 8) := by kernel_rfl
theorem ownsRow_below {base B : Nat} {e : TypeId} {size : Nat} {v : Value} {n : Nat} {xs : List Value} {w w' : World} (h : w.ownsRow base e size v n xs) (hb : Below B w w') (hB : w.heap.size ≤ B) : w'.ownsRow base e size v n xs := by
  rcases h with ⟨h1, ⟨rfl, h2⟩ | ⟨g, cap, cur, rfl, hbg, hg, h3⟩⟩
  · exact ⟨h1, .inl ⟨rfl, h2⟩⟩
  · have hlt : g < w.heap.size := (Array.getElem?_eq_some_iff.1 hg).1
    exact ⟨h1, .inr ⟨g, cap, cur, rfl, hbg, (hb.block g (by omega)).trans hg, h3⟩⟩
/-- What lies in the boxes of ordered, when pre has come. -/
def Gath (n0 B1 B2 : Nat) (pre : List Int) (W : World) : Prop :=
  ∃ v, Boxed W B1 71 v ∧ Boxed W B2 3 (.int .i64 ((st (pre.map pt)).1.length : Nat)) ∧ W.ownsRow n0 87 2 v pre.length (flat2 ((st (pre.map pt)).1 ++ (st (pre.map pt)).2))
theorem Gath.own (n0 B1 B2 : Nat) : Own (Gath n0 B1 B2) := by
  rintro s X Y row ⟨v, h1, h2, h3⟩ hg hr
  refine ⟨v, boxed_own B1 71 (fun _ => v) s X Y row h1 hg hr, boxed_own B2 3 (fun _ => .int .i64 ((st (s.map pt)).1.length : Nat)) s X Y row h2 hg hr, h3.kept hg ?_⟩
  rcases h3.2 with ⟨rfl, _⟩ | ⟨g, cap, cur, rfl, _, hgb, _⟩
  · exact .inl rfl
  · refine .inr fun e' => ?_
    obtain ⟨o, ho, hc⟩ := hr g (by simpa [Value.ownBlock] using e'.symm)
    rw [hgb] at ho; cases ho; cases hc

theorem Tryd.sizeOf87' (W : World) : (sizeOf (Tryd.prog.elem 71)).run Tryd.prog W = .ok 2 W := by kernel_rfl
/-- Sorting what stands from a place on. -/
theorem tail_any {base n k : Nat} {v : Value} {O S : List Pt} {W : World} (hrow : W.ownsRow base 87 2 v n (flat2 (O ++ S))) (hk : O.length = k) (hn : n ≤ 100000) :
    ∃ v', (∀ W2, (Instr.slice 71 v (some (.int .i64 (k : Nat))) none none).run Tryd.prog W2 = .ok v' W2) ∧
      Calls Tryd.prog 66 #[v'] W fun r W' => r = .returned (.tuple #[]) ∧ W'.ownsRow base 87 2 v n (flat2 (O ++ isort S)) ∧ W.grownBy W' v.ownBlock := by
  have hl : k + S.length = n := by have := hrow.1; rw [flat2_len, List.length_append] at this; omega
  rcases id hrow.2 with ⟨rfl, h0⟩ | ⟨g, cap, cur, rfl, hb, hg, hnc, _⟩
  · have hS : S = [] := List.length_eq_zero_iff.1 (by omega)
    have hk0 : k = 0 := by omega
    subst hS hk0
    refine ⟨.slice none 0 0, fun W2 => ?_, (marks_none none 0 W).mono ?_⟩
    · rw [run_slice_l W2 71 none 0 0 (by kernel_rfl) .i64 ((0 : Nat) : Int) (by omega) (by omega), Tryd.sizeOf87' W2]
      rfl
    · rintro r W' ⟨rfl, rfl⟩
      exact ⟨rfl, hrow, ⟨rfl, rfl, rfl, Nat.le_refl _, fun _ _ _ => rfl⟩⟩
  · by_cases hS : S = []
    · subst hS
      refine ⟨.slice (if cap = k then some ⟨g, 0, none⟩ else some ((⟨g, 0, none⟩ : Addr).add (k * 2))) 0 (cap - k), fun W2 => ?_, (marks_none _ _ W).mono ?_⟩
      · rw [run_slice_l W2 71 (some ⟨g, 0, none⟩) n cap (by kernel_rfl) .i64 (k : Int) (by omega) (by simp at hl; omega), Tryd.sizeOf87' W2]
        simp only [Result.andThen, sliced, Int.toNat_natCast]
        have : n - k = 0 := by simp at hl; omega
        rw [this]
        split <;> rfl
      · rintro r W' ⟨rfl, rfl⟩
        exact ⟨rfl, hrow, ⟨rfl, rfl, rfl, Nat.le_refl _, fun _ _ _ => rfl⟩⟩
    · have hSl : 0 < S.length := List.length_pos_iff.2 hS
      refine ⟨.slice (some ⟨g, k * 2, none⟩) (n - k) (cap - k), fun W2 => ?_, ?_⟩
      · rw [run_slice_l W2 71 (some ⟨g, 0, none⟩) n cap (by kernel_rfl) .i64 (k : Int) (by omega) (by omega), Tryd.sizeOf87' W2]
        simp only [Result.andThen, sliced, Int.toNat_natCast]
        rw [if_neg (by omega)]
        simp [Addr.add]
        omega
      · have hp : Pts W g (k * 2) S := by rw [← hk]; exact ownsRow_pts hrow
        refine (marks_any g (k * 2) (cap - k) (n - k) S W (by omega) (by omega) hp).mono ?_
        rintro r W' ⟨rfl, h1, h2⟩
        have e : n - k = S.length := by omega
        rw [e, ← hk] at h2
        rw [← hk] at h1
        exact ⟨rfl, ownsRow_chg hrow h2 h1 (isort_stb S).len, h2.g⟩
theorem len_any {base n : Nat} {v : Value} {X : List Value} {W : World} (hrow : W.ownsRow base 87 2 v n X) (W2 : World) : (Builtin.len_ #[71] 3 #[v]).run Tryd.prog W2 = .ok (.int .i64 n) W2 := by
  rcases hrow.2 with ⟨rfl, h0⟩ | ⟨g, cap, cur, rfl, _⟩
  · subst h0; kernel_rfl
  · rw [run_len_slice W2 71 3 _ _ _ (by kernel_rfl)]; rfl
theorem ownBlock_bad {base n : Nat} {v : Value} {X : List Value} {W : World} (hrow : W.ownsRow base 87 2 v n X) : ∀ k, v.ownBlock = some k → ∃ o : Obj, W.heap[k]? = some o ∧ o.isCells = true ∧ stays o = false := by
  rcases hrow.2 with ⟨rfl, h0⟩ | ⟨g, cap, cur, rfl, _, hg, _⟩
  · intro k hk; simp [Value.ownBlock] at hk
  · intro k hk
    obtain rfl : g = k := by simpa [Value.ownBlock] using hk
    exact ⟨_, hg, rfl, rfl⟩
theorem boxed_bad {W : World} {b : Nat} {t : TypeId} {v : Value} (h : Boxed W b t v) (ht : t = 71 ∨ t = 3) : ∀ k, some b = some k → ∃ o : Obj, W.heap[k]? = some o ∧ o.isCells = true ∧ stays o = false := by
  intro k hk
  cases hk
  refine ⟨_, h, rfl, ?_⟩
  rcases ht with rfl | rfl <;> rfl
theorem ownBlock_lt {base n : Nat} {v : Value} {X : List Value} {W : World} (hrow : W.ownsRow base 87 2 v n X) (k : Nat) (h : v.ownBlock = some k) : base ≤ k ∧ k < W.heap.size := hrow.lt k h
theorem news2 (W : World) (x y : Value) (b : Nat) (hb : b = W.heap.size) : ∀ j z, ([x, y] : List Value)[j]? = some z → (W.alloc (.cells #[x, y] 87)).cell? ((⟨b, 0, none⟩ : Addr).add j) = some z := by
  intro j z hj
  subst hb
  have hg : (W.alloc (.cells #[x, y] 87)).heap[W.heap.size]? = some (.cells #[x, y] 87 (0, 0)) := heap_alloc_last W _
  rcases j with _ | _ | j
  · simp at hj; subst hj; show World.cell? _ ⟨W.heap.size, 0, none⟩ = _; unfold World.cell?; rw [hg]; rfl
  · simp at hj; subst hj; show World.cell? _ ⟨W.heap.size, 1, none⟩ = _; unfold World.cell?; rw [hg]; rfl
  · simp at hj
/-- One more has been appended, and the slice stored. -/
theorem stored_any {C B n : Nat} {w W Wx w5 : World} {o : Obj} {v v5 rv : Value} {X Y : List Value} (hv : Boxed Wx B 71 v) (hr : Boxed Wx (B + 1) 3 rv) (hrow : Wx.ownsRow B 87 2 v n X) (hgrow : (Wx.alloc o).grownBy w5 v.ownBlock)
    (hown : w5.ownsRow B 87 2 v5 (n + 1) Y) (hk : Kp C W Wx) (hB : Below B w Wx) (hw : B ≤ w.heap.size) :
    Kp C W (w5.setCell ⟨B, 0, none⟩ v5) ∧ (Boxed (w5.setCell ⟨B, 0, none⟩ v5) B 71 v5 ∧ Boxed (w5.setCell ⟨B, 0, none⟩ v5) (B + 1) 3 rv ∧ (w5.setCell ⟨B, 0, none⟩ v5).ownsRow B 87 2 v5 (n + 1) Y) ∧ Below B w (w5.setCell ⟨B, 0, none⟩ v5) := by
  have hrowa := hrow.alloc o
  have hv5 : Boxed w5 B 71 v := (hv.alloc o).kept hgrow ((hv.alloc o).not_row (by decide) hrowa)
  have hr5 : Boxed w5 (B + 1) 3 rv := (hr.alloc o).kept hgrow ((hr.alloc o).not_row (by decide) hrowa)
  have hg6 := grownBy_setCell' w5 B v5
  refine ⟨?_, ⟨hv5.set v5, hr5.other (by omega) v5, hown.kept hg6 (.inr (fun e => hv5.not_row (by decide) hown e.symm))⟩, ?_⟩
  · exact hk.trans ((Kp.below ((Below.refl _ Wx).alloc (Nat.le_refl _) o)).trans ((Kp.grown hgrow (ownBlock_bad hrowa)).trans (Kp.grown hg6 (boxed_bad hv5 (.inl rfl)))))
  · have hBa : Below B w (Wx.alloc o) := hB.alloc (by have := hB.size; omega) o
    have hBg : Below B w w5 := hBa.grown hgrow (by have := hBa.size; omega) (fun k e => (ownBlock_lt hrowa k e).1)
    exact hBg.grown hg6 (by have := hBg.size; omega) (fun k e => by cases e; exact Nat.le_refl _)
theorem flat2_snoc (l : List Pt) (x c : Int) : flat2 (l ++ [(x, c)]) = flat2 l ++ [.int .i32 x, .int .u8 c] := by simp [flat2, c2]

set_option maxRecDepth 100000 in
set_option maxHeartbeats 4000000 in
theorem ordered_any (gf : Nat) (lb : Array Value) (xs : List Int) (w : World) (hlen : xs.length ≤ 100000) (eg : ∀ args w, (callFunc gf args).run Tryd.prog w = .ok (.enter gf args) w) (hseq : Feeds gf lb xs w) :
    Calls Tryd.prog 47 #[.func (.func gf) #[] lb] w fun e W' => ∃ v, e = .returned v ∧ W'.ownsRow w.heap.size 87 2 v xs.length (flat2 (ord (xs.map pt))) ∧ Below w.heap.size w W' := by
  refine (callsIn_wide (n := 3)).1 ?_
  obtain ⟨i0, hi, hz0, hz1, hz2⟩ := info_parts Tryd.info87
  obtain ⟨B, hB⟩ : ∃ B, B = w.heap.size := ⟨_, rfl⟩
  obtain ⟨V, hV⟩ : ∃ V, V = (w.alloc (.cells #[.slice none 0 0] 71)).alloc (.cells #[.int .i64 0] 3) := ⟨_, rfl⟩
  have b1 : Boxed V B 71 (.slice none 0 0) := by rw [hV, hB]; exact (Boxed.new w 71 _).alloc _
  have b2 : Boxed V (B + 1) 3 (.int .i64 0) := by rw [hV, hB]; have := Boxed.new (w.alloc (.cells #[.slice none 0 0] 71)) 3 (.int .i64 0); rwa [World.size_alloc] at this
  have hVb : Below B w V := by rw [hV, hB]; exact ((Below.refl _ w).alloc (Nat.le_refl _) _).alloc (by simp) _
  have hVs : V.heap.size = B + 2 := by rw [hV, hB]; simp
  have hf : Feeds gf lb xs V := hseq.later (by rw [← hB]; exact hVb)
  refine callsIn_of_wp_marks Tryd.func47 rfl trivial ?_ rfl
  simp only [Tryd.ntmps47, List.size_toArray, List.length_cons, List.length_nil, Nat.reduceAdd, Nat.reduceSub, Array.replicate_succ, Array.replicate_zero, List.push_toArray, List.append_toArray, List.nil_append, List.cons_append]
  gi_wp2_with fail
  rw [← hV, ← hB]
  clear hV
  have HB := hid hB
  clear hB
  refine range_feeds (gf := gf) (lb := lb) (xs := xs) rfl eg hf rfl (fun pre W => Gath B B (B + 1) pre W ∧ Below B w W)
    (OwnFrom.and (Own.from (Gath.own B B (B + 1)) _) (ownFrom_below (Nat.le_of_eq HB.out) (by omega)))
    ⟨⟨_, b1, b2, World.ownsRow_nil _ _ _ _⟩, hVb⟩
    (fun x => { tmps := #[.func (.func gf) #[] lb, undef, .slice none 0 0, .pointer (some ⟨B, 0, none⟩), .pointer (some ⟨B + 1, 0, none⟩), .int .i32 x, undef, .func (.func gf) #[] lb, .int .i32 x, undef, undef, undef, undef, undef, undef, undef, undef, undef, undef, undef, undef, undef, undef, undef, undef, undef, undef, undef, undef, undef, undef, undef], defers := [] }) ?assign ?body ?done
  case assign =>
    intro l' x W' m K hK
    gi_wp2
    exact hK
  case body =>
    rintro l' pre x W m ⟨⟨v, hv, hrw, hrow⟩, hB⟩ hpx
    have hpl : pre.length + 1 ≤ xs.length := by have := hpx.length_le; simpa using this
    gi_wp2_with fail
    refine ⟨trivial, (fun h => by cases h), ?_⟩
    refine (CallsIn.inRound l' (callsIn_wide.2 (D.class_any x _))).mono ?_
    rintro e W1 ⟨rfl, hB1⟩
    have HPX := hid hpx
    clear hpx
    have hst : st ((pre ++ [x]).map pt) = stp (st (pre.map pt)) (x, cl x) := by rw [List.map_append, List.map_cons, List.map_nil, st_snoc]; rfl
    have hlO : (st (pre.map pt)).1.length + (st (pre.map pt)).2.length = pre.length := by rw [st_len, List.length_map]
    have hx2 : (pt x).2 = cl x := rfl
    generalize hcl : (D.fnd x).2.2.2.2.2.1 = c
    replace hcl : cl x = c := hcl
    rw [hcl] at hst
    obtain ⟨O, hO⟩ : ∃ O, O = (st (pre.map pt)).1 := ⟨_, rfl⟩
    obtain ⟨S, hS⟩ : ∃ S, S = (st (pre.map pt)).2 := ⟨_, rfl⟩
    have est : st (pre.map pt) = (O, S) := by rw [hO, hS]
    rw [est] at hst
    rw [← hO] at hrw hlO
    rw [← hS] at hlO
    rw [← hO, ← hS] at hrow
    have HST := hid hst
    have HEST := hid est
    have HlO := hid hlO
    clear hst est hO hS hlO hcl hx2
    obtain ⟨W2, hW2⟩ : ∃ W2, W2 = W1.alloc (.cells #[.int .i32 x, .int .u8 c] 87) := ⟨_, rfl⟩
    have hb2 : Below W.heap.size W W2 := by rw [hW2]; exact hB1.alloc hB1.size _
    have hv2 : Boxed W2 B 71 v := (hb2.block B hv.lt).trans hv
    have hr2 : Boxed W2 (B + 1) 3 (.int .i64 (O.length : Nat)) := (hb2.block _ hrw.lt).trans hrw
    have hrow2 : W2.ownsRow B 87 2 v pre.length (flat2 (O ++ S)) := ownsRow_below hrow hb2 (Nat.le_refl _)
    have hp2 : W2.heap[W1.heap.size]? = some (.cells #[.int .i32 x, .int .u8 c] 87 (0, 0)) := by rw [hW2]; exact heap_alloc_last W1 _
    have hgl : ∀ k, v.ownBlock = some k → k < W1.heap.size := fun k hk => Nat.lt_of_lt_of_le (ownBlock_lt hrow k hk).2 hB1.size
    have hBw2 : Below B w W2 := hB.trans (hb2.mono (by have := hB.size; have := HB.out; omega))
    have hk2 : Kp V.heap.size W W2 := Kp.below hb2
    have hs1 : B + 1 < W1.heap.size := Nat.lt_of_lt_of_le hrw.lt hB1.size
    have hws : W2.heap.size = W1.heap.size + 1 := by rw [hW2]; simp
    have HB1 := hid hB1
    clear hB1 hrow hrw hv hB hb2
    by_cases hc0 : c = 0
    · subst hc0
      obtain ⟨v', hsl, hcall⟩ := tail_any hrow2 rfl (by omega)
      have hln := len_any hrow2
      have HC := hid hcall
      have cv := hv2.cell
      have crw := hr2.cell
      rw [hW2] at cv crw
      clear hcall
      gi_wp2_with fail
      rw [← hW2]
      refine ⟨trivial, (fun h => by cases h), ?_⟩
      refine (CallsIn.inRound l' (callsIn_wide.2 HC.out)).mono ?_
      rintro e W3 ⟨rfl, hrow3, hg3⟩
      have hbad := ownBlock_bad hrow2
      have hv3 : Boxed W3 B 71 v := hv2.kept hg3 (hv2.not_row (by decide) hrow2)
      have hr3 : Boxed W3 (B + 1) 3 (.int .i64 (O.length : Nat)) := hr2.kept hg3 (hr2.not_row (by decide) hrow2)
      have hp3 : W3.heap[W1.heap.size]? = some (.cells #[.int .i32 x, .int .u8 0] 87 (0, 0)) := (hg3.block _ (by omega) (fun e => by have := hgl _ e.symm; omega)).trans hp2
      have hB3 : Below B w W3 := hBw2.grown hg3 (by have := hBw2.size; have := HB.out; omega) (fun k e => (ownBlock_lt hrow2 k e).1)
      have hk3 : Kp V.heap.size W W3 := hk2.trans (Kp.grown hg3 hbad)
      have hgl3 := hgl
      have hs3 : W1.heap.size + 1 ≤ W3.heap.size := by have := hg3.size; omega
      have cv3 := hv3.cell
      have fr3 := hr3.frozen
      have crw3 := hr3.cell
      have hbl3 : Hid (∀ k, v.ownBlock = some k → B ≤ k ∧ k < W1.heap.size) := fun k hk => ⟨(ownBlock_lt hrow2 k hk).1, hgl k hk⟩
      clear hv2 hr2 hp2 hrow2 hBw2 hk2 hgl cv crw hsl HC hbad hg3 hws hW2
      obtain ⟨W4, hW4⟩ : ∃ W4, W4 = W3.setCell ⟨B + 1, 0, none⟩ (.int .i64 ((pre.length : Int) + 1)) := ⟨_, rfl⟩
      have hv4 : Boxed W4 B 71 v := by rw [hW4]; exact hv3.other (by omega) _
      have hr4 : Boxed W4 (B + 1) 3 (.int .i64 ((pre.length : Int) + 1)) := by rw [hW4]; exact hr3.set _
      have hg4 : W3.grownBy W4 (some (B + 1)) := by rw [hW4]; exact grownBy_setCell' W3 (B + 1) _
      have hp4 : W4.heap[W1.heap.size]? = some (.cells #[.int .i32 x, .int .u8 0] 87 (0, 0)) := (hg4.block _ (by omega) (fun e => by have := Option.some.inj e; omega)).trans hp3
      have hrow4 : W4.ownsRow B 87 2 v pre.length (flat2 (O ++ isort S)) := hrow3.kept hg4 (.inr (fun e => hr3.not_row (by decide) hrow3 e.symm))
      have hB4 : Below B w W4 := hB3.grown hg4 (by have := hB3.size; have := HB.out; omega) (fun k e => by cases e; omega)
      have hk4 : Kp V.heap.size W W4 := hk3.trans (Kp.grown hg4 (boxed_bad hr3 (.inr rfl)))
      have hs4 : W1.heap.size + 1 ≤ W4.heap.size := by have := hg4.size; omega
      have hwr : wrap64 ((pre.length : Int) + 1) = ((pre.length + 1 : Nat) : Int) := wrap_succ _ (by omega)
      have cv4 := hv4.cell
      have cp0 : W4.cell? ⟨W1.heap.size, 0, none⟩ = some (.int .i32 x) := by simp [World.cell?, hp4]
      have cp1 : W4.cell? ⟨W1.heap.size, 1, none⟩ = some (.int .u8 0) := by simp [World.cell?, hp4]
      rw [hW4] at cv4 cp0 cp1
      have hrowA := hrow4
      have hvA := hv4
      rw [hW4] at hrowA hvA
      have hB3s : B + 2 ≤ W3.heap.size := by omega
      have hrow5 : ((W3.setCell ⟨B + 1, 0, none⟩ (.int .i64 ((pre.length : Int) + 1))).alloc (.cells #[.int .i32 x, .int .u8 0] 87)).ownsRow B 87 2 v pre.length (flat2 (O ++ isort S)) := hrowA.alloc _
      have hnews := news2 (W3.setCell ⟨B + 1, 0, none⟩ (.int .i64 ((pre.length : Int) + 1))) (.int .i32 x) (.int .u8 0) W3.heap.size (size_setCell' _ _ _).symm
      gi_wp2_with (gi_at_builtin; refine wpListIn_append_own _ rfl _ _ 71 rfl B 87 i0 (.agg #[.int .i32 0, .int .u8 0]) 2 8 Tryd.underlying71 hi hz0 hz1 hz2 rfl (by decide) _ _ _ rfl hrow5 _ 1 1 [.int .i32 x, .int .u8 0] rfl rfl hnews (by simp [Value.oneCell']) (by unfold maxLen; omega) (by omega) (by simp; omega) ?_; intro v2 w5 hown5 hgrow5 _; obtain ⟨g5, cap5, rfl⟩ := ownsRow_succ hown5; have hv5 : Boxed w5 B 71 v := (hvA.alloc _).kept hgrow5 ((hvA.alloc _).not_row (by decide) hrow5); have cv5 := hv5.cell; have fv5 := hv5.frozen)
      rw [← hW4] at hgrow5
      obtain ⟨k6, g6, b6⟩ := stored_any hv4 hr4 hrow4 hgrow5 hown5 hk4 hB4 (Nat.le_of_eq HB.out)
      refine ⟨k6, ⟨_, g6.1, ?_, ?_⟩, b6⟩
      · rw [HST.out]
        have : (stp (O, S) (x, 0)).1.length = pre.length + 1 := by
          have := HlO.out; have := (isort_stb S).len; simp [stp]; omega
        rw [this]; exact g6.2.1
      · rw [HST.out]
        have e1 : (stp (O, S) (x, 0)).1 ++ (stp (O, S) (x, 0)).2 = (O ++ isort S) ++ [(x, 0)] := by simp [stp]
        rw [e1, flat2_snoc]
        have e2 : (pre ++ [x]).length = pre.length + 1 := by simp
        rw [e2]; exact g6.2.2
    · have hcb : (c == 0) = false := by simpa using hc0
      have cv := hv2.cell
      have cp0 : W2.cell? ⟨W1.heap.size, 0, none⟩ = some (.int .i32 x) := by simp [World.cell?, hp2]
      have cp1 : W2.cell? ⟨W1.heap.size, 1, none⟩ = some (.int .u8 c) := by simp [World.cell?, hp2]
      have hrowA := hrow2
      have hvA := hv2
      rw [hW2] at hrowA hvA cv cp0 cp1
      have hB3s : B + 2 ≤ W1.heap.size := by omega
      have hrow5 : ((W1.alloc (.cells #[.int .i32 x, .int .u8 c] 87)).alloc (.cells #[.int .i32 x, .int .u8 c] 87)).ownsRow B 87 2 v pre.length (flat2 (O ++ S)) := hrowA.alloc _
      have hnews := news2 (W1.alloc (.cells #[.int .i32 x, .int .u8 c] 87)) (.int .i32 x) (.int .u8 c) (W1.heap.size + 1) (by simp)
      gi_wp2_with (gi_at_builtin; refine wpListIn_append_own _ rfl _ _ 71 rfl B 87 i0 (.agg #[.int .i32 0, .int .u8 0]) 2 8 Tryd.underlying71 hi hz0 hz1 hz2 rfl (by decide) _ _ _ rfl hrow5 _ 1 1 [.int .i32 x, .int .u8 c] rfl rfl hnews (by simp [Value.oneCell']) (by unfold maxLen; omega) (by omega) (by simp; omega) ?_; intro v2 w5 hown5 hgrow5 _; obtain ⟨g5, cap5, rfl⟩ := ownsRow_succ hown5; have hv5 : Boxed w5 B 71 v := (hvA.alloc _).kept hgrow5 ((hvA.alloc _).not_row (by decide) hrow5); have cv5 := hv5.cell; have fv5 := hv5.frozen)
      rw [← hW2] at hgrow5
      obtain ⟨k6, g6, b6⟩ := stored_any hv2 hr2 hrow2 hgrow5 hown5 hk2 hBw2 (Nat.le_of_eq HB.out)
      refine ⟨k6, ⟨_, g6.1, ?_, ?_⟩, b6⟩
      · rw [HST.out]
        have : (stp (O, S) (x, c)).1.length = O.length := by simp [stp, hc0]
        rw [this]; exact g6.2.1
      · rw [HST.out]
        have e1 : (stp (O, S) (x, c)).1 ++ (stp (O, S) (x, c)).2 = (O ++ S) ++ [(x, c)] := by simp [stp, hc0]
        rw [e1, flat2_snoc]
        have e2 : (pre ++ [x]).length = pre.length + 1 := by simp
        rw [e2]; exact g6.2.2
  case done =>
    rintro D W hD ⟨⟨v, hv, hrw, hrow⟩, hB⟩ hdf
    have hc1 := hv.cell
    have hc2 := hrw.cell
    have hrow' : W.ownsRow B 87 2 v xs.length (flat2 ((st (xs.map pt)).1 ++ (st (xs.map pt)).2)) := hrow
    obtain ⟨v', hsl, hcall⟩ := tail_any hrow' rfl (by omega)
    have HC := hid hcall
    clear hcall hrow
    gi_wp2_with fail
    refine ⟨trivial, ?_⟩
    refine (callsIn_wide.2 HC.out).mono ?_
    rintro e W3 ⟨rfl, hrow3, hg3⟩
    have hv3 : Boxed W3 B 71 v := hv.kept hg3 (hv.not_row (by decide) hrow')
    have hdf3 : W3.heap[D]? = some (.deferred (some [])) := by
      refine (hg3.block D (Array.getElem?_eq_some_iff.1 hdf).1 (fun e => ?_)).trans hdf
      obtain ⟨o, h1, h2, h3⟩ := ownBlock_bad hrow' D e.symm
      rw [hdf] at h1; cases h1; cases h2
    have hB3 : Below B w W3 := hB.grown hg3 (by have := hB.size; have := HB.out; omega) (fun k e => (ownBlock_lt hrow' k e).1)
    have cv3 := hv3.cell
    gi_wp2
    refine ⟨by simp, .inl ⟨_, _, rfl, run_takeDeferred hdf3, ?_⟩⟩
    refine ⟨_, results_tmp rfl _ _ _, v, rfl, ?_, ?_⟩
    · rw [← HB.out]
      exact ownsRow_putObj hrow3 _ hdf3 rfl
    · rw [← HB.out]
      exact hB3.trans (belowK_b (w := w) (Nat.le_of_eq HB.out) W3 D _ _ (by have := HB.out; omega) hdf3 rfl rfl)
end Go.Proofs.YtpkegjbmnilmdaaDoor.N
/- The contracts of runes, slices.Equal and reaches. -/
namespace Go.Proofs.YtpkegjbmnilmdaaDoor.N
open Go.RowKit
set_option linter.unusedVariables false

/-- The slice value v leads to the points l, from the beginning of a block on. -/
def RowP (W : World) (v : Value) (l : List Pt) : Prop := ∃ a cap, v = .slice a l.length cap ∧ (0 < l.length → ∃ g, a = some ⟨g, 0, none⟩ ∧ Pts W g 0 l)
theorem RowP.of_own {W : World} {base n : Nat} {v : Value} {l : List Pt} (h : W.ownsRow base 87 2 v n (flat2 l)) : RowP W v l := by
  have hl : l.length = n := by have := h.1; rw [flat2_len] at this; omega
  rcases id h.2 with ⟨rfl, h0⟩ | ⟨g, cap, cur, rfl, _⟩
  · exact ⟨none, 0, by rw [hl, h0], fun hp => by omega⟩
  · refine ⟨_, cap, by rw [hl], fun _ => ⟨g, rfl, ?_⟩⟩
    have := ownsRow_pts (O := []) (S := l) (by simpa using h)
    simpa using this
theorem info21 : (Tryd.prog.info? 21).map (fun i => (i.zero, i.size, i.bytes)) = some (some (.int .i32 0), 1, 4) := by kernel_rfl
theorem made_cells (n : Nat) : (madeCells #[Value.int .i32 0] n).toList = List.replicate n (.int .i32 0) := by
  unfold madeCells
  simp [Nat.mod_one, List.map_const']
/-- The numbers of the first k, and noughts. -/
def part (l : List Pt) (k : Nat) : List Int := (l.take k).map (·.1) ++ List.replicate (l.length - k) 0
theorem part_set (l : List Pt) (k : Nat) (hk : k < l.length) : (part l k).set k (l[k]?.getD z2).1 = part l (k + 1) := by
  unfold part
  have h1 : ((l.take k).map (·.1)).length = k := by rw [List.length_map, List.length_take]; omega
  rw [show l.length - k = (l.length - (k + 1)) + 1 by omega, List.replicate_succ, List.take_succ_eq_append_getElem hk, List.getElem?_eq_getElem hk]
  rw [List.set_append_right _ _ (by omega), h1, Nat.sub_self]
  simp only [List.set_cons_zero, List.map_append, List.map_cons, List.map_nil, List.append_assoc, List.cons_append, List.nil_append, Option.getD_some]

set_option maxRecDepth 100000 in
set_option maxHeartbeats 2000000 in
theorem runes_any (v : Value) (l : List Pt) (w : World) (hlen : l.length ≤ 100000) (hr : RowP w v l) :
    Calls Tryd.prog 46 #[v] w fun e W' => ∃ v', e = .returned v' ∧ W'.ownsRow w.heap.size 21 1 v' l.length ((l.map (·.1)).map (Value.int .i32)) ∧ Below w.heap.size w W' := by
  obtain ⟨a, cap, rfl, hf⟩ := hr
  obtain ⟨n, hn⟩ : ∃ n, l.length = n := ⟨_, rfl⟩
  have hmk := fun W => run_make_row' (P := Tryd.prog) 38 21 (.int .i32 0) 4 Tryd.underlying38 info21 rfl .i64 .i64 n (by omega) (by omega) W
  have hz : ∀ W, (zeroValue 87).run Tryd.prog W = .ok (.agg #[.int .i32 0, .int .u8 0]) W := (zero_of_info (P := Tryd.prog) (t := 87) (n := 2) (by kernel_rfl)).1
  have h0 : (w.alloc (.cells (madeCells #[.int .i32 0] n) 21)).ownsRow w.heap.size 21 1 (.slice (some ⟨w.heap.size, 0, none⟩) n n) n ((part l 0).map (Value.int .i32)) := by
    refine ⟨by simp [part, hn], .inr ⟨w.heap.size, n, _, rfl, Nat.le_refl _, heap_alloc_last w _, Nat.le_refl _, by unfold maxLen; omega, by rw [size_madeCells]; omega, ?_⟩⟩
    rw [made_cells]
    simp [part, hn]
  have H0 := hid h0
  have HF := hid hf
  rw [hn] at hlen ⊢
  have HN := hid hn
  clear h0 hf hn
  go_enter Tryd.func46, Tryd.ntmps46
  go_wp2_with fail
  go_loopw [11] (fun i wr => ∃ k : Nat, k ≤ n ∧ i = .int .i64 k ∧ wr.ownsRow w.heap.size 21 1 (.slice (some ⟨w.heap.size, 0, none⟩) n n) n ((part l k).map (Value.int .i32)) ∧ Below w.heap.size w wr) (fun i _ => n - (intOf i).toNat)
  case atStart => exact ⟨0, Nat.zero_le _, rfl, H0.out, (Below.refl _ w).alloc (Nat.le_refl _) _⟩
  case round =>
    obtain ⟨k, hk, rfl, hrow, hB⟩ := hrel
    by_cases hlt : k < n
    · obtain ⟨g, rfl, hp⟩ := HF.out (by have := HN.out; omega)
      have hp' := hp.below hB hp.lt
      have hkl : k < l.length := by have := HN.out; omega
      have e0 := hp'.c0 k hkl
      have e1 := hp'.c1 k hkl
      have HPS := hid (part_set l k hkl)
      obtain ⟨p, hpe⟩ : ∃ p, l[k]?.getD z2 = p := ⟨_, rfl⟩
      rw [hpe] at e0 e1 HPS
      simp only [Nat.zero_add] at e0 e1
      have hltz : (k : Int) < (n : Int) := by omega
      have hsz : w.heap.size < wr.heap.size := (hrow.lt _ rfl).2
      have hra := hrow.alloc (.cells #[.int .i32 p.1, .int .u8 p.2] 87)
      have hck : (wr.alloc (.cells #[.int .i32 p.1, .int .u8 p.2] 87)).cell? ⟨w.heap.size, k, none⟩ = some (.int .i32 ((part l k)[k]?.getD 0)) := by
        have h3 := hra.cellAt k (by omega)
        have h4 : k < (part l k).length := by unfold part; simp; omega
        rw [h3, List.getElem?_map, List.getElem?_eq_getElem h4]; rfl
      have hfk : (wr.alloc (.cells #[.int .i32 p.1, .int .u8 p.2] 87)).frozen? ⟨w.heap.size, k, none⟩ = false := by
        rcases hra.2 with ⟨h, _⟩ | ⟨g', cap', cur, h, _, hg, _⟩
        · cases h
        · cases h; simp [World.frozen?, hg]
      generalize (part l k)[k]?.getD 0 = y at hck
      clear hp hp' hpe
      go_wp2
      have hst := hrow.stored k (.int .i32 p.1)
      have hB1 := hB.setCell (p := ⟨w.heap.size, k, none⟩) (Nat.le_refl _) (.int .i32 p.1)
      have hB2 := hB1.alloc hB1.size (.cells #[.int .i32 p.1, .int .u8 p.2] 87)
      go_roundw
      case rel => exact ⟨k + 1, by omega, by go_num, by have := hst.1; rw [← List.map_set, HPS.out] at this; exact this.alloc _, hB2⟩
      case measure => simp [intOf]; omega
    · have hltz : ¬ (k : Int) < (n : Int) := by omega
      have HE : Hid (part l k = l.map (·.1)) := by
        show _ = _
        unfold part
        have h1 : l.length - k = 0 := by have := HN.out; omega
        rw [h1, List.take_of_length_le (by omega)]; simp
      go_wp2
      go_ret
      exact ⟨_, rfl, by have h := hrow; rw [HE.out] at h; simpa using h, hB⟩

/-- Whether nothing between keeps c from what stands ahead. -/
def rch (B : List Pt) (c : Pt) : Bool := match B.getLast? with
  | none => true
  | some b => decide (b.2 < c.2)

end Go.Proofs.YtpkegjbmnilmdaaDoor.N
/- The contract of together. -/
namespace Go.Proofs.YtpkegjbmnilmdaaDoor.N
open Go.RowKit
set_option linter.unusedVariables false

/-- What stands ahead of the last one of class 0, that one, and the marks behind it; or marks alone. -/
abbrev TS := Option (List Pt × Pt) × List Pt
def tout : TS → List Pt
  | (none, B) => B
  | (some (A, s), B) => A ++ s :: B
def tlast : TS → Int
  | (none, _) => -1
  | (some (A, _), _) => (A.length : Nat)
/-- The pair's code point, if they are one. -/
def pr (a b : Int) : Int × Bool := D.prf D.prs a b
def tstep (t : TS) (c : Pt) : TS := match t with
  | (none, B) => if c.2 = 0 then (some (B, c), []) else (none, B ++ [c])
  | (some (A, s), B) => if rch B c = true ∧ (pr s.1 c.1).2 = true then (some (A, ((pr s.1 c.1).1, s.2)), B) else if c.2 = 0 then (some (A ++ s :: B, c), []) else (some (A, s), B ++ [c])
def tst (l : List Pt) : TS := l.foldl tstep (none, [])
/-- Put together what is taken apart and in order. -/
def comp (l : List Pt) : List Pt := tout (tst l)
theorem tst_snoc (l : List Pt) (c : Pt) : tst (l ++ [c]) = tstep (tst l) c := by simp [tst, List.foldl_append]
theorem tst_take (l : List Pt) (k : Nat) (hk : k < l.length) : tst (l.take (k + 1)) = tstep (tst (l.take k)) (l[k]?.getD z2) := by
  rw [List.take_succ_eq_append_getElem hk, tst_snoc, List.getElem?_eq_getElem hk]; rfl
theorem tstep_len (t : TS) (c : Pt) : (tout (tstep t c)).length ≤ (tout t).length + 1 := by
  obtain ⟨_ | ⟨A, s⟩, B⟩ := t
  · unfold tstep; dsimp only; split <;> simp [tout]
  · unfold tstep; dsimp only
    split
    · simp [tout]
    · split <;> simp [tout] <;> omega
theorem tst_len (l : List Pt) : (tout (tst l)).length ≤ l.length := by
  induction l using snoc_ind with
  | h0 => simp [tst, tout]
  | h1 l c ih => rw [tst_snoc]; have := tstep_len (tst l) c; simp; omega
theorem flat2_set (A : List Pt) (s : Pt) (B : List Pt) (y : Int) : (flat2 (A ++ s :: B)).set (A.length * 2) (.int .i32 y) = flat2 (A ++ (y, s.2) :: B) := by
  have e : ∀ p : Pt, flat2 (A ++ p :: B) = flat2 A ++ ([.int .i32 p.1, .int .u8 p.2] ++ flat2 B) := fun p => by simp [flat2, c2]
  rw [e, e, List.set_append_right _ _ (by rw [flat2_len]; omega), flat2_len, Nat.sub_self]
  rfl
theorem own_some {base m : Nat} {v : Value} {X : List Value} {W : World} (h : W.ownsRow base 87 2 v m X) (hm : 0 < m) : ∃ g cap, v = .slice (some ⟨g, 0, none⟩) m cap := by
  rcases h.2 with ⟨rfl, h0⟩ | ⟨g, cap, cur, rfl, _⟩
  · omega
  · exact ⟨g, cap, rfl⟩

/-- Whether c reaches the last one of class 0. -/
def reach (t : TS) (c : Pt) : Bool := match t with
  | (none, _) => false
  | (some _, B) => rch B c
/-- c goes behind all. -/
def app (t : TS) (c : Pt) : TS := if c.2 = 0 then (some (tout t, c), []) else (t.1, t.2 ++ [c])
theorem app_out (t : TS) (c : Pt) : tout (app t c) = tout t ++ [c] := by
  obtain ⟨_ | ⟨A, s⟩, B⟩ := t <;> unfold app <;> split <;> simp [tout]
theorem app_last0 (t : TS) (c : Pt) (h : c.2 = 0) : tlast (app t c) = ((tout t).length : Nat) := by unfold app; rw [if_pos h]; rfl
theorem app_last1 (t : TS) (c : Pt) (h : ¬ c.2 = 0) : tlast (app t c) = tlast t := by
  obtain ⟨_ | ⟨A, s⟩, B⟩ := t <;> unfold app <;> rw [if_neg h] <;> rfl
theorem tstep_app0 {t : TS} {c : Pt} (h : reach t c = false) : tstep t c = app t c := by
  obtain ⟨_ | ⟨A, s⟩, B⟩ := t
  · unfold tstep app; rfl
  · have hr : rch B c = false := h
    unfold tstep app
    dsimp only
    rw [if_neg (by rw [hr]; simp)]
    rfl
theorem tstep_app1 {A : List Pt} {s : Pt} {B : List Pt} {c : Pt} (h : (pr s.1 c.1).2 = false) : tstep (some (A, s), B) c = app (some (A, s), B) c := by
  unfold tstep app
  dsimp only
  rw [if_neg (by rw [h]; simp)]
  rfl
theorem tstep_pair {A : List Pt} {s : Pt} {B : List Pt} {c : Pt} {q : Int} (h : reach (some (A, s), B) c = true) (hq : pr s.1 c.1 = (q, true)) : tstep (some (A, s), B) c = (some (A, (q, s.2)), B) := by
  have hr : rch B c = true := h
  unfold tstep
  dsimp only
  rw [if_pos ⟨hr, by rw [hq]⟩, hq]

end Go.Proofs.YtpkegjbmnilmdaaDoor.N
