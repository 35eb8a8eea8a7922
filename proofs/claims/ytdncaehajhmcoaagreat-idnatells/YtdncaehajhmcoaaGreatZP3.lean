/- Texts of one layer, one behind the other: PBB PPC. -/
import Derived.Test.YtdncaehajhmcoaaGreatZP2
import Derived.Deep.AppendLies
import Derived.Deep.Cut
import Derived.Deep.CutRange
import Derived.Deep.RegionLaw
import Derived.RangeFuncBox
/- The closure by which one number behind the other is written. -/
namespace Go.Proofs.YtdncaehajhmcoaaGreat.P
open Go.RowKit U
set_option linter.unusedVariables false

/-- What the closure holds: the bias, where the bytes go, how many points there are, whether it is the first time. -/
structure Pen (base : Nat) (w : World) (Bb Bp Bn Bf Bo : Nat) (bias pts : Nat) (first : Bool) (v : Value) (k : Nat) (xs : List Value) : Prop where
  b : Boxed w Bb 3 (.int .i64 bias)
  p : Boxed w Bp 174 (.pointer (some ⟨Bo, 0, none⟩))
  n : Boxed w Bn 3 (.int .i64 pts)
  f : Boxed w Bf 4 (.bool first)
  o : Boxed w Bo 39 v
  row : w.ownsRow base 5 1 v k xs
  ne : Bb ≠ Bn
  hb : base ≤ Bb
  hn : base ≤ Bn
  hf : base ≤ Bf
  ho : base ≤ Bo
  sz : base ≤ w.heap.size

theorem boxed_ne {W : World} {B C : Nat} {t u : TypeId} {x y : Value} (h : Boxed W B t x) (k : Boxed W C u y) (hne : t ≠ u) : B ≠ C := by
  intro e
  unfold Boxed at h k
  rw [e, k] at h
  simp at h
  exact hne h.2.symm
theorem boxed_set {W : World} {B C : Nat} {t : TypeId} {x : Value} (h : Boxed W B t x) (hne : B ≠ C) (y : Value) : Boxed (W.setCell ⟨C, 0, none⟩ y) B t x :=
  h.kept (grownBy_setCell' W C y) (by simpa using hne)
theorem Pen.drew {base : Nat} {w : World} {Bb Bp Bn Bf Bo bias pts : Nat} {first : Bool} {v : Value} {k : Nat} {xs : List Value} (h : Pen base w Bb Bp Bn Bf Bo bias pts first v k xs) : Pen base w.drew Bb Bp Bn Bf Bo bias pts first v k xs :=
  ⟨h.b, h.p, h.n, h.f, h.o, h.row.drew, h.ne, h.hb, h.hn, h.hf, h.ho, h.sz⟩
/-- One more byte. -/
theorem Pen.add {base : Nat} {w w0 w1 : World} {Bb Bp Bn Bf Bo bias pts : Nat} {first : Bool} {v v' : Value} {k : Nat} {xs ys : List Value} (h : Pen base w Bb Bp Bn Bf Bo bias pts first v k xs) (ob : Obj) (hw0 : w0 = (w.alloc ob).drew)
    (hown : w1.ownsRow base 5 1 v' (k + 1) ys) (hg : w0.grownBy w1 v.ownBlock) :
    Pen base (w1.setCell ⟨Bo, 0, none⟩ v') Bb Bp Bn Bf Bo bias pts first v' (k + 1) ys ∧ Below base w (w1.setCell ⟨Bo, 0, none⟩ v') := by
  have g : w.grownBy w1 v.ownBlock := by
    subst hw0
    have g0 := World.grownBy_alloc w ob none
    exact grown_trans (⟨g0.os, g0.tape, g0.output, g0.size, g0.block⟩ : w.grownBy (w.alloc ob).drew none) hg
  have ho := boxed_called (t := 39) (e := 5) (n₀ := base) h.o (by decide) h.row h.sz h.ho hown g
  have kb : ∀ {B : Nat} {t : TypeId} {x : Value}, Boxed w B t x → t ≠ 5 → t ≠ 39 → Boxed (w1.setCell ⟨Bo, 0, none⟩ v') B t x := fun hx h5 h34 =>
    boxed_set (hx.kept g (hx.not_row h5 h.row)) (boxed_ne hx h.o h34) v'
  exact ⟨⟨kb h.b (by decide) (by decide), kb h.p (by decide) (by decide), kb h.n (by decide) (by decide), kb h.f (by decide) (by decide), ho.2.1, ho.2.2.1, h.ne, h.hb, h.hn, h.hf, h.ho, Nat.le_trans h.sz ho.2.2.2.2.size⟩, ho.2.2.2.2⟩
theorem row_set {w : World} {base C : Nat} {t : TypeId} {x v : Value} {k : Nat} {xs : List Value} (h : w.ownsRow base 5 1 v k xs) (hx : Boxed w C t x) (hte : t ≠ 5) (y : Value) : (w.setCell ⟨C, 0, none⟩ y).ownsRow base 5 1 v k xs :=
  h.kept (grownBy_setCell' w C y) (.inr (hx.not_row hte h).symm)
/-- The number is written: one point more, another bias. -/
theorem Pen.fin {base : Nat} {w : World} {Bb Bp Bn Bf Bo bias pts : Nat} {first : Bool} {v : Value} {k : Nat} {xs : List Value} (h : Pen base w Bb Bp Bn Bf Bo bias pts first v k xs) (A : Nat) :
    Pen base (((w.setCell ⟨Bn, 0, none⟩ (.int .i64 ((pts : Int) + 1))).setCell ⟨Bb, 0, none⟩ (.int .i64 A)).setCell ⟨Bf, 0, none⟩ (.bool false)) Bb Bp Bn Bf Bo A (pts + 1) false v k xs ∧
      Below base w (((w.setCell ⟨Bn, 0, none⟩ (.int .i64 ((pts : Int) + 1))).setCell ⟨Bb, 0, none⟩ (.int .i64 A)).setCell ⟨Bf, 0, none⟩ (.bool false)) := by
  have fb := boxed_ne h.f h.b (by decide); have fn := boxed_ne h.f h.n (by decide); have pb := boxed_ne h.p h.b (by decide); have pn := boxed_ne h.p h.n (by decide); have pf := boxed_ne h.p h.f (by decide)
  have ob := boxed_ne h.o h.b (by decide); have on := boxed_ne h.o h.n (by decide); have of := boxed_ne h.o h.f (by decide)
  have b1 := boxed_set h.b h.ne (.int .i64 ((pts : Int) + 1))
  have n1 := h.n.set (.int .i64 ((pts : Int) + 1))
  have f1 := boxed_set h.f fn (.int .i64 ((pts : Int) + 1))
  have r1 := row_set h.row h.n (by decide) (.int .i64 ((pts : Int) + 1))
  have f2 := boxed_set f1 fb (.int .i64 A)
  have r2 := row_set r1 b1 (by decide) (.int .i64 A)
  have r3 := row_set r2 f2 (by decide) (.bool false)
  refine ⟨⟨boxed_set (b1.set _) (fun e => fb e.symm) _, boxed_set (boxed_set (boxed_set h.p pn _) pb _) pf _, boxed_set (boxed_set n1 (fun e => h.ne e.symm) _) (fun e => fn e.symm) _, f2.set _, boxed_set (boxed_set (boxed_set h.o on _) ob _) of _, r3, h.ne, h.hb, h.hn, h.hf, h.ho, ?_⟩, ?_⟩
  · simpa using h.sz
  · exact (((Below.refl base w).setCell (p := ⟨Bn, 0, none⟩) h.hn _).setCell (p := ⟨Bb, 0, none⟩) h.hb _).setCell (p := ⟨Bf, 0, none⟩) h.hf _
theorem wn_less (b k q : Nat) (h : q < thr k b) : wn b k q = [sgn q] := by rw [wn_at, if_pos h]
theorem wn_more (b k q : Nat) (h : ¬ q < thr k b) : wn b k q = sgn (thr k b + (q - thr k b) % (36 - thr k b)) :: wn b (k + 36) ((q - thr k b) / (36 - thr k b)) := by rw [wn_at, if_neg h]

/-- A call of a function that only reckons, as one step of a region that draws. -/
theorem step_call {P : Program} {ops : Array Oper} {o : Oper} {a : Act} {w : World} {K : Act → World → Prop} {Q : Exit → Act → World → Prop} {E : Prop}
    (hg : o.guard = none) (f : Nat) (s : Operand) (t : TypeId) (hop : o.op = Op.call { callee := Callee.value (Operand.func f), args := #[s], argTypes := #[t] })
    (v r : Value) (hs : a.eval s = v) (hen : (callFunc f #[v]).run P w = .ok (.enter f #[v]) w) (hc : Calls P f #[v] w fun e w' => e = .returned r ∧ w' = w) (hK : K (a.put o.dst r) w) :
    if Region.wanted o (yielded ops a.tmps) = true then Oper.wp P o a w K Q else E := by
  have hw : Region.wanted o (yielded ops a.tmps) = true := by simp [Region.wanted, hg]
  rw [if_pos hw]
  unfold Oper.wp
  have e : (execOp a.eval o).run P w = .ok (.enter f #[v]) w := by
    have hf : a.eval (Operand.func f) = .func (.func f) #[] #[] := rfl
    simp [execOp, hop, resolve, invoke, hs, hf, Deferred.ofValue]; exact hen
  rw [e, Oper.upon_enter]
  refine hc.mono ?_
  rintro e w' ⟨rfl, rfl⟩
  exact hK

set_option maxRecDepth 100000 in
set_option maxHeartbeats 8000000 in
theorem put_any (base Bb Bp Bn Bf Bo bias pts : Nat) (first : Bool) (v : Value) (k : Nat) (xs : List Int) (D : Nat) (hD : D ≤ 71303231) (hbias : bias ≤ 1000000000) (hpts : pts ≤ 1000000) (hk : k ≤ 10000000000000) (w : World)
    (h : Pen base w Bb Bp Bn Bf Bo bias pts first v k (xs.map (Value.int .u8))) :
    Calls Tryz.prog 181 #[.int .i64 D, .pointer (some ⟨Bb, 0, none⟩), .pointer (some ⟨Bp, 0, none⟩), .pointer (some ⟨Bn, 0, none⟩), .pointer (some ⟨Bf, 0, none⟩)] w
      fun e W' => e = .returned (.tuple #[]) ∧ (∃ v', Pen base W' Bb Bp Bn Bf Bo (adapt D (pts + 1) first) (pts + 1) false v' (k + (wn bias 36 D).length) ((xs ++ wn bias 36 D).map (Value.int .u8))) ∧ Below base w W' := by
  obtain ⟨i0, hi0, hz0, hz1, hz2⟩ := info_parts Tryz.info5
  have cb := h.b.cell
  have HH := hid h
  clear h
  go_enter Tryz.func181, Tryz.ntmps181
  go_wp2_with (go_at_call 173; refine (thr_any 36 bias (by omega) (by omega) _).mono ?_; rintro e w' ⟨rfl, hw'⟩; obtain rfl := hw'.symm)
  go_loopw [6, 7, 8] (fun q kk t wr => ∃ (Q K : Nat) (v : Value) (acc : List Int), q = .int .i64 Q ∧ kk = .int .i64 K ∧ t = .int .i64 (thr K bias) ∧ Q ≤ 71303231 ∧ K + Q ≤ 71303267 + 36 * acc.length ∧ acc.length + Q ≤ 71303231 ∧ Hid (acc ++ wn bias K Q = wn bias 36 D) ∧
      Pen base wr Bb Bp Bn Bf Bo bias pts first v (k + acc.length) ((xs ++ acc).map (Value.int .u8)) ∧ Below base w wr)
    (fun q _ _ _ => (intOf q).toNat)
  case atStart => exact ⟨D, 36, v, [], rfl, rfl, rfl, hD, by simp; omega, by simp; omega, rfl, by simpa using HH.out, Below.refl _ _⟩
  case round =>
    obtain ⟨Q, K, v, acc, rfl, rfl, htt, h1, h2, h3, h4, h5, hB⟩ := hrel
    have t1 := thr_lo K bias
    have t2 := thr_hi K bias
    obtain ⟨t, ht⟩ : ∃ t, thr K bias = t := ⟨_, rfl⟩
    rw [ht] at htt t1 t2
    have HT := hid ht
    clear ht
    subst htt
    have cb := h5.b.cell
    have cp := h5.p.cell
    have co := h5.o.cell
    have fo := h5.o.frozen
    have hrow := h5.row
    have hsz := h5.sz
    have np := h5.p.not_row (by decide) h5.row
    have no := h5.o.not_row (by decide) h5.row
    have lp := h5.p.lt
    have hpo : Bp ≠ Bo := by
      intro e
      have h1 := h5.p; have h2 := h5.o
      unfold Boxed at h1 h2
      rw [e, h2] at h1
      simp at h1
    have hop : Bo ≠ Bp := fun e => hpo e.symm
    have lo := h5.o.lt
    have H5 := hid h5
    clear h5
    by_cases hq : Q < t
    · have hqz : ¬ ((t : Int) ≤ (Q : Int)) := by omega
      have hs1 := sgn_lt Q (by omega)
      obtain ⟨y, hy⟩ : ∃ y, y = sgn Q := ⟨_, rfl⟩
      rw [← hy] at hs1
      have HY := hid hy
      clear hy
      go_upto_region 7 with fail
      go_cut [] from 43 (fun wc => ∃ v', Pen base wc Bb Bp Bn Bf Bo bias pts first v' (k + acc.length + 1) ((xs ++ acc).map (Value.int .u8) ++ [.int .u8 y]) ∧ Below base wr wc)
      case first =>
        go_region_law (first
          | (refine step_call rfl 182 (.tmp 47) 2 rfl (.int .i64 Q) (.int .u8 y) (by simp [Act.eval, Act.put]) (enters_of Tryz.func182 (by kernel_rfl) rfl _ _) (by rw [HY.out]; exact sign_any Q (by omega) _) ?_)
          | (refine step_append_lies _ (by rfl) _ _ _ (by rfl) base 5 i0 _ 1 1 Tryz.underlying39 hi0 hz0 hz1 hz2 rfl (by omega) _ (k + acc.length) ((xs ++ acc).map (Value.int .u8)) (by rfl) ((hrow.alloc _).drew)
              ⟨wr.heap.size, 0, none⟩ 1 1 [.int .u8 y] (by rfl) (by rfl) (World.news_of_block (cs := #[.int .u8 y]) (t := 5) (fr := (0, 0)) (heap_alloc_new wr _)) (by simp [Value.oneCell'])
              (by omega) (by unfold maxLen; omega) (by omega) (by simp; omega) (wr.heap.size + 1) (by simp) ?_; intro gg cap' w1 hown1 hgrow hat hlt1
             have cp1 : w1.cell? ⟨Bp, 0, none⟩ = some (.pointer (some ⟨Bo, 0, none⟩)) := by rw [hgrow.cell_far ⟨Bp, 0, none⟩ (by simp; omega) np]; simpa using ((H5.out.p.alloc _).cell : (wr.alloc (.cells #[.int .u8 y] 5)).cell? ⟨Bp, 0, none⟩ = some _)
             have c1 : w1.cell? ⟨Bo, 0, none⟩ = some v := by rw [hgrow.cell_far ⟨Bo, 0, none⟩ (by simp; omega) no]; simpa using ((H5.out.o.alloc _).cell : (wr.alloc (.cells #[.int .u8 y] 5)).cell? ⟨Bo, 0, none⟩ = some v)
             have f1 : w1.frozen? ⟨Bo, 0, none⟩ = false := by rw [hgrow.frozen_far ⟨Bo, 0, none⟩ (by simp; omega) no]; simpa using ((H5.out.o.alloc _).frozen : (wr.alloc (.cells #[.int .u8 y] 5)).frozen? ⟨Bo, 0, none⟩ = false)))
        all_goals (go_wp2_with fail; go_meet; case rel => exact ⟨_, H5.out.add _ rfl hown1 hgrow⟩)
      case rest =>
        obtain ⟨v', hP, hB'⟩ := hcut
        have HP := hid hP
        have cB := hP.b.cell
        have cN := hP.n.cell
        have cF := hP.f.cell
        have fB := hP.b.frozen
        have fN := hP.n.frozen
        have fF := hP.f.frozen
        have n1 := hP.ne
        have n2 : Bn ≠ Bb := fun e => n1 e.symm
        have n3 := boxed_ne hP.f hP.n (by decide)
        have n4 := boxed_ne hP.n hP.f (by decide)
        have n5 := boxed_ne hP.f hP.b (by decide)
        have n6 := boxed_ne hP.b hP.f (by decide)
        clear hP hrow co cp fo np no lp lo cb
        go_wp2_with (go_at_call 143; refine (show Calls Tryz.prog 143 #[.int .i64 D, .int .i64 ((pts : Int) + 1), .bool first] _ _ from adapt_any D (pts + 1) first (by omega) (by omega) (by omega) _).mono ?_; rintro e w' ⟨rfl, rfl⟩)
        go_end0
        have e : wn bias 36 D = acc ++ [y] := by rw [← h4.out, wn_less bias K Q (by rw [HT.out]; exact hq), HY.out]
        obtain ⟨P1, P2⟩ := HP.out.fin (adapt D (pts + 1) first)
        refine ⟨rfl, ⟨v', ?_⟩, (hB.trans (hB'.mono (Nat.le_refl _))).trans P2⟩
        rw [e, List.length_append, ← Nat.add_assoc, ← List.append_assoc, List.map_append]
        exact P1
    · have hqz : (t : Int) ≤ (Q : Int) := by omega
      have m0 : 0 ≤ ((Q : Int) - t) % (36 - t) := Int.emod_nonneg _ (by omega)
      have m1 : ((Q : Int) - t) % (36 - t) < 36 - t := Int.emod_lt_of_pos _ (by omega)
      obtain ⟨x, hx⟩ : ∃ x : Nat, (x : Int) = (t : Int) + ((Q : Int) - t) % (36 - t) := ⟨((t : Int) + ((Q : Int) - t) % (36 - t)).toNat, by omega⟩
      have hx36 : x < 36 := by omega
      have hxe : Hid ((t : Int) + ((Q : Int) - t) % (36 - t) = (x : Int)) := hx.symm
      clear hx
      have hs1 := sgn_lt x hx36
      obtain ⟨y, hy⟩ : ∃ y, y = sgn x := ⟨_, rfl⟩
      rw [← hy] at hs1
      have HY := hid hy
      clear hy
      have r1 : IntKind.i64.wrap ((Q : Int) - t) = (Q : Int) - t := by simp [IntKind.wrap, IntKind.bits, IntKind.signed]; omega
      have r2 : IntKind.i64.wrap (36 - (t : Int)) = 36 - (t : Int) := by simp [IntKind.wrap, IntKind.bits, IntKind.signed]; omega
      have r3 : ¬ (36 - (t : Int) = 0) := by omega
      have r5 : Int.tmod ((Q : Int) - t) (36 - t) = ((Q : Int) - t) % (36 - t) := Int.tmod_eq_emod_of_nonneg (by omega)
      have r7 : IntKind.i64.wrap ((t : Int) + ((Q : Int) - t) % (36 - t)) = (x : Int) := by rw [hxe.out]; simp [IntKind.wrap, IntKind.bits, IntKind.signed]; omega
      go_upto_region 3 with fail
      go_cut [] from 13 to 42 (fun wc => ∃ v', Pen base wc Bb Bp Bn Bf Bo bias pts first v' (k + acc.length + 1) ((xs ++ acc).map (Value.int .u8) ++ [.int .u8 y]) ∧ Below base wr wc)
      case first =>
        go_region_law (first
          | (refine step_call rfl 182 (.tmp 27) 2 rfl (.int .i64 x) (.int .u8 y) (by simp [Act.eval, Act.put]) (enters_of Tryz.func182 (by kernel_rfl) rfl _ _) (by rw [HY.out]; exact sign_any x hx36 _) ?_)
          | (refine step_append_lies _ (by rfl) _ _ _ (by rfl) base 5 i0 _ 1 1 Tryz.underlying39 hi0 hz0 hz1 hz2 rfl (by omega) _ (k + acc.length) ((xs ++ acc).map (Value.int .u8)) (by rfl) ((hrow.alloc _).drew)
              ⟨wr.heap.size, 0, none⟩ 1 1 [.int .u8 y] (by rfl) (by rfl) (World.news_of_block (cs := #[.int .u8 y]) (t := 5) (fr := (0, 0)) (heap_alloc_new wr _)) (by simp [Value.oneCell'])
              (by omega) (by unfold maxLen; omega) (by omega) (by simp; omega) (wr.heap.size + 1) (by simp) ?_; intro gg cap' w1 hown1 hgrow hat hlt1
             have cp1 : w1.cell? ⟨Bp, 0, none⟩ = some (.pointer (some ⟨Bo, 0, none⟩)) := by rw [hgrow.cell_far ⟨Bp, 0, none⟩ (by simp; omega) np]; simpa using ((H5.out.p.alloc _).cell : (wr.alloc (.cells #[.int .u8 y] 5)).cell? ⟨Bp, 0, none⟩ = some _)
             have c1 : w1.cell? ⟨Bo, 0, none⟩ = some v := by rw [hgrow.cell_far ⟨Bo, 0, none⟩ (by simp; omega) no]; simpa using ((H5.out.o.alloc _).cell : (wr.alloc (.cells #[.int .u8 y] 5)).cell? ⟨Bo, 0, none⟩ = some v)
             have f1 : w1.frozen? ⟨Bo, 0, none⟩ = false := by rw [hgrow.frozen_far ⟨Bo, 0, none⟩ (by simp; omega) no]; simpa using ((H5.out.o.alloc _).frozen : (wr.alloc (.cells #[.int .u8 y] 5)).frozen? ⟨Bo, 0, none⟩ = false)))
        all_goals (go_wp2_with fail; go_meet; case rel => exact ⟨_, H5.out.add _ rfl hown1 hgrow⟩)
      case rest =>
        obtain ⟨v', hP, hB'⟩ := hcut
        have HP := hid hP
        have cB := hP.b.cell
        clear hP hrow co cp fo np no lp lo cb r1 r2 r3 r5 r7
        go_wp2_with (go_at_call 173; refine (show Calls Tryz.prog 173 #[.int .i64 ((K : Int) + 36), .int .i64 bias] _ _ from thr_any (K + 36) bias (by omega) (by omega) _).mono ?_; rintro e w' ⟨rfl, rfl⟩)
        have q1 : (Q - t) / (36 - t) ≤ Q - t := Nat.div_le_self _ _
        have q2 : ((Q : Int) - t) / (36 - t) = (((Q - t) / (36 - t) : Nat) : Int) := by
          rw [Int.natCast_ediv, Int.ofNat_sub (by omega), Int.ofNat_sub (by omega)]; rfl
        go_roundw
        case rel =>
          refine ⟨(Q - t) / (36 - t), K + 36, v', acc ++ [y], by rw [q2], by go_num, by go_num, by omega, by rw [List.length_append]; simp only [List.length_cons, List.length_nil]; omega, by rw [List.length_append]; simp only [List.length_cons, List.length_nil]; omega, ?_, ?_, (hB.trans (hB'.mono (Nat.le_refl _)))⟩
          · have e : x = t + (Q - t) % (36 - t) := by
              have := hxe.out
              have q3 : ((Q : Int) - t) % (36 - t) = (((Q - t) % (36 - t) : Nat) : Int) := by
                rw [Int.natCast_emod, Int.ofNat_sub (by omega), Int.ofNat_sub (by omega)]; rfl
              omega
            show acc ++ [y] ++ wn bias (K + 36) ((Q - t) / (36 - t)) = wn bias 36 D
            rw [← h4.out, wn_more bias K Q (by rw [HT.out]; exact hq), HT.out, ← e, HY.out, List.append_assoc]; rfl
          · have := HP.out
            rw [List.length_append, ← Nat.add_assoc, ← List.append_assoc, List.map_append]
            exact this
        case measure => simp [intOf]; rw [q2]; omega
end Go.Proofs.YtdncaehajhmcoaaGreat.P
/- Plain: bounds on what is adapted and on how long a number is; what is left from n on. -/
namespace Go.Proofs.YtdncaehajhmcoaaGreat.P
open Go.RowKit U
set_option linter.unusedVariables false

theorem loopA_le (A K : Nat) : loopA A K ≤ K + A + 36 := by
  induction A using Nat.strongRecOn generalizing K with
  | ind A ih =>
    by_cases h : 455 < A
    · rw [loopA_more A K h]
      have := ih (A / 35) (by omega) (K + 36)
      omega
    · rw [loopA_less A K h]
      have : 36 * A / (A + 38) ≤ 36 := by
        apply Nat.le_of_lt_succ
        rw [Nat.div_lt_iff_lt_mul (by omega)]
        omega
      omega
theorem adapt_le (d p : Nat) (f : Bool) (hd : d ≤ 100000000000) : adapt d p f ≤ 2 * d + 36 := by
  unfold adapt
  have h1 : (if f = true then d / 700 else d / 2) ≤ d := by split <;> omega
  have h2 := Nat.div_le_self (if f = true then d / 700 else d / 2) p
  have := loopA_le ((if f = true then d / 700 else d / 2) + (if f = true then d / 700 else d / 2) / p) 0
  omega
theorem wn_le (b k q : Nat) : (wn b k q).length ≤ q + 1 := by
  induction q using Nat.strongRecOn generalizing k with
  | ind q ih =>
    rw [wn_at]
    split
    · simp
    · rename_i h
      have h1 := thr_lo k b
      have h2 := Nat.div_le_self (q - thr k b) (36 - thr k b)
      have := ih ((q - thr k b) / (36 - thr k b)) (by omega) (k + 36)
      rw [List.length_cons]; omega
def ups (l : List Int) (n : Int) : Nat := (l.filter fun x => decide (n ≤ x)).length
theorem ups_less (l : List Int) (n m : Int) (h : IsLeast l n m) : ups l (m + 1) < ups l n := by
  obtain ⟨h1, h2, _⟩ := h
  unfold ups
  have sub : (l.filter fun x => decide (m + 1 ≤ x)) = (l.filter fun x => decide (n ≤ x)).filter fun x => decide (m + 1 ≤ x) := by
    rw [List.filter_filter]
    apply List.filter_congr
    intro x _
    by_cases hx : m + 1 ≤ x
    · simp [hx]; omega
    · simp [hx]
  rw [sub]
  have hle := List.length_filter_le (fun x => decide (m + 1 ≤ x)) (l.filter fun x => decide (n ≤ x))
  rcases Nat.lt_or_ge (List.filter (fun x => decide (m + 1 ≤ x)) (l.filter fun x => decide (n ≤ x))).length (l.filter fun x => decide (n ≤ x)).length with h | h
  · exact h
  · exfalso
    have e := (List.filter_sublist (p := fun x => decide (m + 1 ≤ x)) (l := l.filter fun x => decide (n ≤ x))).eq_of_length (by omega)
    have hm : m ∈ l.filter fun x => decide (n ≤ x) := List.mem_filter.mpr ⟨h1, by simpa using h2⟩
    rw [← e] at hm
    have := (List.mem_filter.mp hm).2
    simp at this
    omega
theorem hd_len (p : List Int) : (hd p).length ≤ p.length + 1 := by unfold hd; split <;> simp
theorem hd_bytes (l : List Int) (h0 : ∀ x ∈ l, 0 ≤ x) : ∀ c ∈ hd (plain l), 0 ≤ c ∧ c < 128 := by
  intro c hc
  unfold hd at hc
  split at hc
  · cases hc
  · rcases List.mem_append.mp hc with hc | hc
    · exact ⟨h0 c (List.mem_filter.mp hc).1, plain_lt l c hc⟩
    · simp at hc; omega
/-- What is written is ASCII. -/
theorem Enc.ascii {l T : List Int} (h : Enc l T) (h0 : ∀ x ∈ l, 0 ≤ x) : ∀ c ∈ T, 0 ≤ c ∧ c < 128 := by
  obtain ⟨ds, rfl, _⟩ := h
  intro c hc
  rcases List.mem_append.mp hc with hc | hc
  · exact hd_bytes l h0 c hc
  · have := tx_signs _ ds c hc; omega
end Go.Proofs.YtdncaehajhmcoaaGreat.P
