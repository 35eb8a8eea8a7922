/- What the walks of stage 11 want of the program (Ctr), and works over it. -/
import Derived.Test.YtpkmpebhlolhaaaDoorXK
import Derived.Laws.StructEq
namespace Go.Proofs.YtpkmpebhlolhaaaDoor.X
open Go.RowKit
open Go.Proofs.YtpkmpebhlolhaaaDoor.F (hx hx_bd vl bn bn_length bn_append bn_inj bn_get byte_bd hid bn_extract isEmpty_false isEmpty_true str_eq same_eq)
set_option linter.unusedVariables false

theorem part16 (xs : Array Value) (i : Nat) (x : Int) (h : xs[i]? = some (.int .u16 x)) (w : World) : (part 22 xs i).run Tryd.prog w = .ok (.int .u16 x) w := by
  unfold part
  simp [h, go_sem]
theorem eq_loop (d : Nat) (xs ys : Array Value) (f g : Nat → Int) (w : World) : ∀ (L : List Nat), (∀ i ∈ L, xs[i]? = some (.int .u16 (f i))) → (∀ i ∈ L, ys[i]? = some (.int .u16 (g i))) →
    Sem.run Tryd.prog (forIn L ((none : Option Bool), ()) fun i __s => do
            let a ← part 22 xs (i * 1)
            let b ← part 22 ys (i * 1)
            let r ← Op.equalIn (d + 1) 22 a b
            if (!r) = true then pure (ForInStep.done (some false, ())) else pure (ForInStep.yield (none, ()))) w = .ok ((if L.all (fun i => f i == g i) = true then none else some false), ()) w
  | [], _, _ => by simp
  | i :: L, hx, hy => by
    have ih := eq_loop d xs ys f g w L (fun j hj => hx j (by simp [hj])) (fun j hj => hy j (by simp [hj]))
    have e : i * 1 = i := Nat.mul_one i
    simp only [List.forIn_cons, Sem.run_bind, e, part16 xs i _ (hx i (by simp)), part16 ys i _ (hy i (by simp)), Result.andThen_ok, run_equalIn_int w d 22 .u16 .u16 _ _ Tryd.underlying22]
    cases h : (f i == g i) with
    | true => simp only [Bool.not_true, Bool.false_eq_true, if_false, Sem.run_pure, Result.andThen_ok, List.all_cons, h, Bool.true_and]; simpa using ih
    | false => simp [h]
theorem eq8 (d : Nat) (xs ys : Array Value) (f g : Nat → Int) (hx : ∀ i, i < 8 → xs[i]? = some (.int .u16 (f i))) (hy : ∀ i, i < 8 → ys[i]? = some (.int .u16 (g i))) (w : World) : (Op.equalIn (d + 2) 23 (.agg xs) (.agg ys)).run Tryd.prog w = .ok ((List.range 8).all (fun i => f i == g i)) w := by
  have hs : ∀ w, (sizeOf 22).run Tryd.prog w = .ok 1 w := fun w => by kernel_rfl
  rw [Op.equalIn]
  simp only [Sem.run_bind, run_underlying Tryd.underlying23, Result.andThen_ok, hs]
  rw [Std.Legacy.Range.forIn_eq_forIn_range']
  have e : List.range' ([:8] : Std.Legacy.Range).start ([:8] : Std.Legacy.Range).size ([:8] : Std.Legacy.Range).step = List.range 8 := by decide
  rw [e]
  have h := eq_loop d xs ys f g w (List.range 8) (fun i hi => hx i (List.mem_range.1 hi)) (fun i hi => hy i (List.mem_range.1 hi))
  rw [h]
  simp only [Result.andThen_ok]
  cases (List.range 8).all (fun i => f i == g i) <;> simp
theorem u16_at {X : List Nat} (h : X.length = 8) (i : Nat) (hi : i < 8) : (u16s X).toArray[i]? = some (.int .u16 ((X[i]?.getD 0 : Nat) : Int)) := by
  unfold u16s
  simp [h, hi]
/-- Two addresses, held against each other. -/
theorem eql_arr {X Y : List Nat} (hX : X.length = 8) (hY : Y.length = 8) (W : World) : (binOp .eql 23 (.agg (u16s X).toArray) (.agg (u16s Y).toArray)).run Tryd.prog W = .ok (.bool (decide (X = Y))) W := by
  rw [run_eql_struct, eq8 9998 _ _ (fun i => ((X[i]?.getD 0 : Nat) : Int)) (fun i => ((Y[i]?.getD 0 : Nat) : Int)) (u16_at hX) (u16_at hY)]
  simp only [Result.andThen_ok]
  congr 2
  rw [Bool.eq_iff_iff, List.all_eq_true, decide_eq_true_iff]
  constructor
  · intro h
    exact ext8 hX hY (fun j hj => by
      have := h j (List.mem_range.2 hj)
      exact Int.ofNat.inj (eq_of_beq this))
  · intro h i _
    rw [h]; simp
/-- The error's number: 8 is ErrForm. -/
def err (o : Option (List Nat)) : Int := if o.isSome = true then 0 else 8
/-- What the two functions answer, where G holds of the world (the tables that they read lie as the text lays them). -/
structure Ctr (G : World → Prop) : Prop where
  keep : ∀ (w w' : World), G w → Below w.heap.size w w' → G w'
  cp : ∀ (s : ByteArray) (w : World), s.size ≤ 100000 → G w → Calls Tryd.prog 8 #[.string s] w fun e W' => e = .returned (.tuple #[.agg (u16s ((prs (bn s)).getD z8)).toArray, .int .i64 (err (prs (bn s)))]) ∧ Below w.heap.size w W'
  ct : ∀ (a : List Nat) (w : World), a.length = 8 → Small a → G w → Calls Tryd.prog 10 #[.agg (u16s a).toArray] w fun e W' => TxtR a w e W'
theorem Ctr.cpIs {G : World → Prop} (C : Ctr G) {s : ByteArray} {a0 a1 a2 a3 a4 a5 a6 a7 : Nat} (hs : s.size ≤ 100000) (h : prs (bn s) = some [a0, a1, a2, a3, a4, a5, a6, a7]) (W : World) (hG : G W) : Calls Tryd.prog 8 #[.string s] W fun e W' => e = .returned (.tuple #[.agg #[.int .u16 a0, .int .u16 a1, .int .u16 a2, .int .u16 a3, .int .u16 a4, .int .u16 a5, .int .u16 a6, .int .u16 a7], .int .i64 0]) ∧ Below W.heap.size W W' :=
  (C.cp s W hs hG).mono (by
    rintro e W' ⟨rfl, hB⟩
    rw [h]; exact ⟨rfl, hB⟩)
theorem Ctr.cpNo {G : World → Prop} (C : Ctr G) {s : ByteArray} (hs : s.size ≤ 100000) (h : prs (bn s) = none) (W : World) (hG : G W) : Calls Tryd.prog 8 #[.string s] W fun e W' => e = .returned (.tuple #[.agg #[.int .u16 0, .int .u16 0, .int .u16 0, .int .u16 0, .int .u16 0, .int .u16 0, .int .u16 0, .int .u16 0], .int .i64 8]) ∧ Below W.heap.size W W' :=
  (C.cp s W hs hG).mono (by
    rintro e W' ⟨rfl, hB⟩
    rw [h]; exact ⟨rfl, hB⟩)
theorem Ctr.ctIs {G : World → Prop} (C : Ctr G) {a : List Nat} {t : ByteArray} (hl : a.length = 8) (hs : Small a) (h : txt a = bn t) (W : World) (hG : G W) : Calls Tryd.prog 10 #[.agg (u16s a).toArray] W fun e W' => e = .returned (.string t) ∧ Below W.heap.size W W' :=
  (C.ct a W hl hs hG).mono (by
    rintro e W' ⟨⟨u, rfl, hu⟩, hB⟩
    obtain rfl := bn_inj (hu.trans h)
    exact ⟨rfl, hB⟩)
theorem self_eq (t : ByteArray) : (t.toList == t.toList) = true := same_eq rfl
def y1 : ByteArray := ⟨#[58, 58, 102, 102, 102, 102, 58, 49, 46, 50, 46, 51, 46, 52]⟩
def y2 : ByteArray := ⟨#[49, 58, 58, 50, 58, 58, 51]⟩
def y3 : ByteArray := ⟨#[49, 58, 48, 58, 48, 58, 50, 58, 58, 51]⟩
def y4 : ByteArray := ⟨#[58, 58]⟩
set_option maxRecDepth 100000 in
set_option maxHeartbeats 4000000 in
theorem works_any {G : World → Prop} (C : Ctr G) (w : World) (hG : G w) : Calls Tryd.prog 7 #[] w fun e W' => e = .returned (.bool true) ∧ Below w.heap.size w W' := by
  have H1 : Hid (∀ W, G W → Calls Tryd.prog 8 #[.string ⟨#[58, 58, 102, 102, 102, 102, 58, 49, 46, 50, 46, 51, 46, 52]⟩] W fun e W' => e = .returned (.tuple #[.agg #[.int .u16 0, .int .u16 0, .int .u16 0, .int .u16 0, .int .u16 0, .int .u16 65535, .int .u16 258, .int .u16 772], .int .i64 0]) ∧ Below W.heap.size W W') := fun W h => C.cpIs (s := y1) (a0 := 0) (a1 := 0) (a2 := 0) (a3 := 0) (a4 := 0) (a5 := 65535) (a6 := 258) (a7 := 772) (by decide) (by decide +kernel) W h
  have H2 : Hid (∀ W, G W → Calls Tryd.prog 8 #[.string ⟨#[49, 58, 58, 50, 58, 58, 51]⟩] W fun e W' => e = .returned (.tuple #[.agg #[.int .u16 0, .int .u16 0, .int .u16 0, .int .u16 0, .int .u16 0, .int .u16 0, .int .u16 0, .int .u16 0], .int .i64 8]) ∧ Below W.heap.size W W') := fun W h => C.cpNo (s := y2) (by decide) (by decide +kernel) W h
  have H3 : Hid (∀ W, G W → Calls Tryd.prog 10 #[.agg #[.int .u16 1, .int .u16 0, .int .u16 0, .int .u16 2, .int .u16 0, .int .u16 0, .int .u16 0, .int .u16 3]] W fun e W' => e = .returned (.string ⟨#[49, 58, 48, 58, 48, 58, 50, 58, 58, 51]⟩) ∧ Below W.heap.size W W') := fun W h => C.ctIs (a := [1, 0, 0, 2, 0, 0, 0, 3]) (t := y3) rfl (by intro v hv; simp at hv; omega) (by decide +kernel) W h
  have H4 : Hid (∀ W, G W → Calls Tryd.prog 10 #[.agg #[.int .u16 0, .int .u16 0, .int .u16 0, .int .u16 0, .int .u16 0, .int .u16 0, .int .u16 0, .int .u16 0]] W fun e W' => e = .returned (.string ⟨#[58, 58]⟩) ∧ Below W.heap.size W W') := fun W h => C.ctIs (a := [0, 0, 0, 0, 0, 0, 0, 0]) (t := y4) rfl (by intro v hv; simp at hv; omega) (by decide +kernel) W h
  have HB : Hid (Below w.heap.size w w) := Below.refl _ _
  have HK : Hid (∀ W, Below w.heap.size w W → G W) := fun W h => C.keep w W hG h
  have e1 := self_eq ⟨#[49, 58, 48, 58, 48, 58, 50, 58, 58, 51]⟩
  have e2 := self_eq ⟨#[58, 58]⟩
  have hq : ∀ W, (binOp .eql 23 (.agg #[.int .u16 0, .int .u16 0, .int .u16 0, .int .u16 0, .int .u16 0, .int .u16 65535, .int .u16 258, .int .u16 772]) (.agg #[.int .u16 0, .int .u16 0, .int .u16 0, .int .u16 0, .int .u16 0, .int .u16 65535, .int .u16 258, .int .u16 772])).run Tryd.prog W = .ok (.bool true) W := fun W => eql_arr (X := [0, 0, 0, 0, 0, 65535, 258, 772]) (Y := [0, 0, 0, 0, 0, 65535, 258, 772]) rfl rfl W
  clear C hG
  go_enter Tryd.func7, Tryd.ntmps7
  go_wp2_with fail
  refine (H1.out _ (HK.out _ HB.out)).mono ?_
  rintro e w1 ⟨rfl, B⟩
  have HB1 := hid (HB.out.trans (B.mono HB.out.size))
  clear B H1
  go_wp2_with fail
  refine (H2.out _ (HK.out _ (HB1.out.alloc HB1.out.size _))).mono ?_
  rintro e w2 ⟨rfl, B⟩
  have f0 : w2.cell? ⟨w1.heap.size, 0, none⟩ = some (.int .u16 0) := (B.cell (p := ⟨w1.heap.size, 0, none⟩) (by simp)).trans (cell_alloc w1 _ [.int .u16 0, .int .u16 0, .int .u16 0, .int .u16 0, .int .u16 0, .int .u16 65535, .int .u16 258, .int .u16 772] 0 _ rfl)
  have f1 : w2.cell? ⟨w1.heap.size, 1, none⟩ = some (.int .u16 0) := (B.cell (p := ⟨w1.heap.size, 1, none⟩) (by simp)).trans (cell_alloc w1 _ [.int .u16 0, .int .u16 0, .int .u16 0, .int .u16 0, .int .u16 0, .int .u16 65535, .int .u16 258, .int .u16 772] 1 _ rfl)
  have f2 : w2.cell? ⟨w1.heap.size, 2, none⟩ = some (.int .u16 0) := (B.cell (p := ⟨w1.heap.size, 2, none⟩) (by simp)).trans (cell_alloc w1 _ [.int .u16 0, .int .u16 0, .int .u16 0, .int .u16 0, .int .u16 0, .int .u16 65535, .int .u16 258, .int .u16 772] 2 _ rfl)
  have f3 : w2.cell? ⟨w1.heap.size, 3, none⟩ = some (.int .u16 0) := (B.cell (p := ⟨w1.heap.size, 3, none⟩) (by simp)).trans (cell_alloc w1 _ [.int .u16 0, .int .u16 0, .int .u16 0, .int .u16 0, .int .u16 0, .int .u16 65535, .int .u16 258, .int .u16 772] 3 _ rfl)
  have f4 : w2.cell? ⟨w1.heap.size, 4, none⟩ = some (.int .u16 0) := (B.cell (p := ⟨w1.heap.size, 4, none⟩) (by simp)).trans (cell_alloc w1 _ [.int .u16 0, .int .u16 0, .int .u16 0, .int .u16 0, .int .u16 0, .int .u16 65535, .int .u16 258, .int .u16 772] 4 _ rfl)
  have f5 : w2.cell? ⟨w1.heap.size, 5, none⟩ = some (.int .u16 65535) := (B.cell (p := ⟨w1.heap.size, 5, none⟩) (by simp)).trans (cell_alloc w1 _ [.int .u16 0, .int .u16 0, .int .u16 0, .int .u16 0, .int .u16 0, .int .u16 65535, .int .u16 258, .int .u16 772] 5 _ rfl)
  have f6 : w2.cell? ⟨w1.heap.size, 6, none⟩ = some (.int .u16 258) := (B.cell (p := ⟨w1.heap.size, 6, none⟩) (by simp)).trans (cell_alloc w1 _ [.int .u16 0, .int .u16 0, .int .u16 0, .int .u16 0, .int .u16 0, .int .u16 65535, .int .u16 258, .int .u16 772] 6 _ rfl)
  have f7 : w2.cell? ⟨w1.heap.size, 7, none⟩ = some (.int .u16 772) := (B.cell (p := ⟨w1.heap.size, 7, none⟩) (by simp)).trans (cell_alloc w1 _ [.int .u16 0, .int .u16 0, .int .u16 0, .int .u16 0, .int .u16 0, .int .u16 65535, .int .u16 258, .int .u16 772] 7 _ rfl)
  have hlt : w1.heap.size < w2.heap.size := Nat.lt_of_lt_of_le (by simp) B.size
  have HB2 := hid ((HB1.out.alloc HB1.out.size _).trans (B.mono (Nat.le_trans HB1.out.size (by simp))))
  clear B H2
  go_wp2_with fail
  have HB3 := hid (HB2.out.alloc HB2.out.size (.cells #[.int .u16 0, .int .u16 0, .int .u16 0, .int .u16 0, .int .u16 0, .int .u16 0, .int .u16 0, .int .u16 0] 23))
  refine (H3.out _ (HK.out _ HB3.out)).mono ?_
  rintro e w3 ⟨rfl, B⟩
  have HB4 := hid (HB3.out.trans (B.mono HB3.out.size))
  clear B H3 HB3
  go_wp2_with fail
  refine (H4.out _ (HK.out _ HB4.out)).mono ?_
  rintro e w4 ⟨rfl, B⟩
  have HB5 := hid (HB4.out.trans (B.mono HB4.out.size))
  clear B H4
  go_wp2
  go_ret
  exact ⟨rfl, HB5.out⟩
end Go.Proofs.YtpkmpebhlolhaaaDoor.X
