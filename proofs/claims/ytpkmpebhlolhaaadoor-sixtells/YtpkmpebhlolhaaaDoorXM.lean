/- SixTells' walk. (Stage 11; written by tools/r11/xm.py.) -/
import Derived.Test.YtpkmpebhlolhaaaDoorXL
import Derived.BigQuiet
import Derived.Deep.QuietTactic
namespace Go.Proofs.YtpkmpebhlolhaaaDoor.X
open Go.RowKit
open Go.Proofs.YtpkmpebhlolhaaaDoor.F (hx hx_bd vl bn bn_length bn_append bn_inj bn_get byte_bd hid bn_extract isEmpty_false isEmpty_true str_eq same_eq)
set_option linter.unusedVariables false

/-- A later world, in which all that lay lies as it lay. -/
structure Later (w : World) where
  W : World
  h : Below w.heap.size w W
theorem wp_region_quiet_in {P : Program} {id : Nat} {Q : Exit → Act → World → Prop} {a : Act} {w : World} {l : List Oper} (hm : P.follows .mixedOrders = true) (hB : Region.lexB .any l.toArray = true)
    (h : wpQuiet P l.toArray (fun w' => ∃ x : Later w, w' = x.W) (fun a' => ∀ w', (∃ x : Later w, w' = x.W) → Q .normal a' w') l a) : (Code.region id l.toArray true).wp P Q a w :=
  wp_region_quiet (C := fun w' => ∃ x : Later w, w' = x.W) hm hB ⟨⟨{ w with drawn := w.drawn + 1 }, ⟨rfl, rfl, rfl, Nat.le_refl _, fun _ _ => rfl⟩⟩, rfl⟩ (by simpa using h)
theorem Later.call {w : World} {f : FuncId} {args : Array Value} {v : Value} (x : Later w) (h : Calls Tryd.prog f args x.W fun e w' => e = .returned v ∧ Below x.W.heap.size x.W w') : Calls Tryd.prog f args x.W fun e w' => e = .returned v ∧ ∃ y : Later w, w' = y.W :=
  h.mono fun _ w' ⟨he, hb⟩ => ⟨he, ⟨w', x.h.trans (hb.mono x.h.size)⟩, rfl⟩
/-- A row of eight, seen from a later world. -/
theorem Later.cell {w w3 : World} {t : TypeId} {X : List Nat} (hB : Below (w.heap.size + 1) (w.alloc (.cells (u16s X).toArray t)) w3) (x : Later w3) {j : Nat} (hj : j < X.length) : x.W.cell? ⟨w.heap.size, j, none⟩ = some (.int .u16 ((X[j]?.getD 0 : Nat) : Int)) :=
  cell_in w t X (hB.trans (x.h.mono (by have := hB.size; simpa using this))) hj
set_option maxRecDepth 100000 in
set_option maxHeartbeats 4000000 in
theorem tells_some {G : World → Prop} (C : Ctr G) (s : ByteArray) (a0 a1 a2 a3 a4 a5 a6 a7 p0 p1 p2 p3 p4 p5 p6 p7 : Nat) (hp : prs (bn s) = some [p0, p1, p2, p3, p4, p5, p6, p7]) (w : World) (hG : G w) (hT : Tab w) (h1z : (s.size : Int) ≤ 8192) (hS : Small [a0, a1, a2, a3, a4, a5, a6, a7]) :
    Calls Tryd.prog 3 #[.string s, .agg #[.int .u16 a0, .int .u16 a1, .int .u16 a2, .int .u16 a3, .int .u16 a4, .int .u16 a5, .int .u16 a6, .int .u16 a7]] w fun e W' => e = .returned (.bool true) ∧ Below w.heap.size w W' := by
  obtain ⟨t, ht⟩ : ∃ t, bn t = txt [a0, a1, a2, a3, a4, a5, a6, a7] := by
    obtain ⟨e, w', fr, ⟨⟨t, _, ht⟩, _⟩, _⟩ := C.ct _ w rfl hS hG []
    exact ⟨t, ht⟩
  have HK : Hid (∀ W, Below w.heap.size w W → G W) := fun W h => C.keep w W hG h
  have HTW : Hid (∀ W, Below w.heap.size w W → Tab W) := fun W h => Tab.below h (Nat.le_refl _) hT
  have HW : Hid (∀ W, G W → _) := fun W h => works_any C W h
  have H1 : Hid (∀ W, G W → _) := fun W h => C.cpIs (by omega) hp W h
  have H2 : Hid (∀ W, Calls Tryd.prog 9 #[.string s] W fun e W' => e = .returned (.tuple #[.agg #[.int .u16 p0, .int .u16 p1, .int .u16 p2, .int .u16 p3, .int .u16 p4, .int .u16 p5, .int .u16 p6, .int .u16 p7], .bool true]) ∧ Below W.heap.size W W') := fun W => by
    have := rparse_any s W (by omega)
    unfold ParR at this
    rw [hp] at this
    exact this
  have H3 : Hid (∀ W, G W → Calls Tryd.prog 10 #[.agg #[.int .u16 a0, .int .u16 a1, .int .u16 a2, .int .u16 a3, .int .u16 a4, .int .u16 a5, .int .u16 a6, .int .u16 a7]] W fun e W' => e = .returned (.string t) ∧ Below W.heap.size W W') := fun W h => C.ctIs rfl hS ht.symm W h
  have H4 : Hid (∀ W, Tab W → Calls Tryd.prog 11 #[.agg #[.int .u16 a0, .int .u16 a1, .int .u16 a2, .int .u16 a3, .int .u16 a4, .int .u16 a5, .int .u16 a6, .int .u16 a7]] W fun e W' => e = .returned (.string t) ∧ Below W.heap.size W W') := fun W h => (rtext_any a0 a1 a2 a3 a4 a5 a6 a7 hS W h).mono (by
    rintro e W' ⟨⟨u, rfl, hu⟩, hB⟩
    obtain rfl := bn_inj (hu.trans ht.symm)
    exact ⟨rfl, hB⟩)
  have e1 := self_eq t
  have hq : ∀ W, (binOp .eql 23 (.agg #[.int .u16 p0, .int .u16 p1, .int .u16 p2, .int .u16 p3, .int .u16 p4, .int .u16 p5, .int .u16 p6, .int .u16 p7]) (.agg #[.int .u16 p0, .int .u16 p1, .int .u16 p2, .int .u16 p3, .int .u16 p4, .int .u16 p5, .int .u16 p6, .int .u16 p7])).run Tryd.prog W = .ok (.bool true) W := fun W => by
    have := eql_arr (X := [p0, p1, p2, p3, p4, p5, p6, p7]) (Y := [p0, p1, p2, p3, p4, p5, p6, p7]) rfl rfl W
    simpa [u16s] using this
  have HB : Hid (Below w.heap.size w w) := Below.refl _ _
  clear C hG hT hS ht hp
  go_enter Tryd.func3, Tryd.ntmps3
  go_wp2_with fail
  have HB0 := hid (HB.out.alloc HB.out.size (.cells #[.int .u16 a0, .int .u16 a1, .int .u16 a2, .int .u16 a3, .int .u16 a4, .int .u16 a5, .int .u16 a6, .int .u16 a7] 23))
  refine (H1.out _ (HK.out _ HB0.out)).mono ?_
  rintro e w1 ⟨rfl, B1⟩
  have HA1 := hid (show Below (w.heap.size + 1) (w.alloc (.cells (u16s [a0, a1, a2, a3, a4, a5, a6, a7]).toArray 23)) w1 from B1.mono (by simp))
  have HB1 := hid (HB0.out.trans (B1.mono HB0.out.size))
  clear B1 H1 HB0 HB
  go_wp2_with fail
  have HB1' := hid (HB1.out.alloc HB1.out.size (.cells #[.int .u16 p0, .int .u16 p1, .int .u16 p2, .int .u16 p3, .int .u16 p4, .int .u16 p5, .int .u16 p6, .int .u16 p7] 23))
  have HA1' := hid (HA1.out.alloc (by have := HA1.out.size; simpa using this) (.cells #[.int .u16 p0, .int .u16 p1, .int .u16 p2, .int .u16 p3, .int .u16 p4, .int .u16 p5, .int .u16 p6, .int .u16 p7] 23))
  refine (H2.out _).mono ?_
  rintro e w2 ⟨rfl, B2⟩
  have HX2 := hid (show Below (w1.heap.size + 1) (w1.alloc (.cells (u16s [p0, p1, p2, p3, p4, p5, p6, p7]).toArray 23)) w2 from B2.mono (by simp))
  have HB2 := hid (HB1'.out.trans (B2.mono HB1'.out.size))
  have HA2 := hid (HA1'.out.trans (B2.mono (by have := HA1'.out.size; simpa using this)))
  clear B2 H2 HB1 HB1' HA1 HA1'
  have HB3 := hid (HB2.out.alloc HB2.out.size (.cells #[.int .u16 p0, .int .u16 p1, .int .u16 p2, .int .u16 p3, .int .u16 p4, .int .u16 p5, .int .u16 p6, .int .u16 p7] 23))
  have HA3 := hid (HA2.out.alloc (by have := HA2.out.size; simpa using this) (.cells #[.int .u16 p0, .int .u16 p1, .int .u16 p2, .int .u16 p3, .int .u16 p4, .int .u16 p5, .int .u16 p6, .int .u16 p7] 23))
  have HX3 := hid (HX2.out.alloc (by have := HX2.out.size; simpa using this) (.cells #[.int .u16 p0, .int .u16 p1, .int .u16 p2, .int .u16 p3, .int .u16 p4, .int .u16 p5, .int .u16 p6, .int .u16 p7] 23))
  have HY3 := hid (show Below (w2.heap.size + 1) (w2.alloc (.cells (u16s [p0, p1, p2, p3, p4, p5, p6, p7]).toArray 23)) (w2.alloc (.cells #[.int .u16 p0, .int .u16 p1, .int .u16 p2, .int .u16 p3, .int .u16 p4, .int .u16 p5, .int .u16 p6, .int .u16 p7] 23)) from Below.refl _ _)
  clear HB2 HA2 HX2
  go_wp2_with fail
  obtain ⟨w3, hw3⟩ : ∃ w3, w2.alloc (.cells #[.int .u16 p0, .int .u16 p1, .int .u16 p2, .int .u16 p3, .int .u16 p4, .int .u16 p5, .int .u16 p6, .int .u16 p7] 23) = w3 := ⟨_, rfl⟩
  rw [hw3] at HB3 HA3 HX3 HY3 ⊢
  clear hw3
  have hne : Nonempty (Later w3) := ⟨⟨w3, Below.refl _ _⟩⟩
  have ya0 : ∀ x : Later w3, x.W.cell? ⟨w.heap.size, 0, none⟩ = some (.int .u16 a0) := fun x => Later.cell (X := [a0, a1, a2, a3, a4, a5, a6, a7]) HA3.out x (j := 0) (by simp)
  have ya1 : ∀ x : Later w3, x.W.cell? ⟨w.heap.size, 1, none⟩ = some (.int .u16 a1) := fun x => Later.cell (X := [a0, a1, a2, a3, a4, a5, a6, a7]) HA3.out x (j := 1) (by simp)
  have ya2 : ∀ x : Later w3, x.W.cell? ⟨w.heap.size, 2, none⟩ = some (.int .u16 a2) := fun x => Later.cell (X := [a0, a1, a2, a3, a4, a5, a6, a7]) HA3.out x (j := 2) (by simp)
  have ya3 : ∀ x : Later w3, x.W.cell? ⟨w.heap.size, 3, none⟩ = some (.int .u16 a3) := fun x => Later.cell (X := [a0, a1, a2, a3, a4, a5, a6, a7]) HA3.out x (j := 3) (by simp)
  have ya4 : ∀ x : Later w3, x.W.cell? ⟨w.heap.size, 4, none⟩ = some (.int .u16 a4) := fun x => Later.cell (X := [a0, a1, a2, a3, a4, a5, a6, a7]) HA3.out x (j := 4) (by simp)
  have ya5 : ∀ x : Later w3, x.W.cell? ⟨w.heap.size, 5, none⟩ = some (.int .u16 a5) := fun x => Later.cell (X := [a0, a1, a2, a3, a4, a5, a6, a7]) HA3.out x (j := 5) (by simp)
  have ya6 : ∀ x : Later w3, x.W.cell? ⟨w.heap.size, 6, none⟩ = some (.int .u16 a6) := fun x => Later.cell (X := [a0, a1, a2, a3, a4, a5, a6, a7]) HA3.out x (j := 6) (by simp)
  have ya7 : ∀ x : Later w3, x.W.cell? ⟨w.heap.size, 7, none⟩ = some (.int .u16 a7) := fun x => Later.cell (X := [a0, a1, a2, a3, a4, a5, a6, a7]) HA3.out x (j := 7) (by simp)
  have yx0 : ∀ x : Later w3, x.W.cell? ⟨w1.heap.size, 0, none⟩ = some (.int .u16 p0) := fun x => Later.cell (X := [p0, p1, p2, p3, p4, p5, p6, p7]) HX3.out x (j := 0) (by simp)
  have yx1 : ∀ x : Later w3, x.W.cell? ⟨w1.heap.size, 1, none⟩ = some (.int .u16 p1) := fun x => Later.cell (X := [p0, p1, p2, p3, p4, p5, p6, p7]) HX3.out x (j := 1) (by simp)
  have yx2 : ∀ x : Later w3, x.W.cell? ⟨w1.heap.size, 2, none⟩ = some (.int .u16 p2) := fun x => Later.cell (X := [p0, p1, p2, p3, p4, p5, p6, p7]) HX3.out x (j := 2) (by simp)
  have yx3 : ∀ x : Later w3, x.W.cell? ⟨w1.heap.size, 3, none⟩ = some (.int .u16 p3) := fun x => Later.cell (X := [p0, p1, p2, p3, p4, p5, p6, p7]) HX3.out x (j := 3) (by simp)
  have yx4 : ∀ x : Later w3, x.W.cell? ⟨w1.heap.size, 4, none⟩ = some (.int .u16 p4) := fun x => Later.cell (X := [p0, p1, p2, p3, p4, p5, p6, p7]) HX3.out x (j := 4) (by simp)
  have yx5 : ∀ x : Later w3, x.W.cell? ⟨w1.heap.size, 5, none⟩ = some (.int .u16 p5) := fun x => Later.cell (X := [p0, p1, p2, p3, p4, p5, p6, p7]) HX3.out x (j := 5) (by simp)
  have yx6 : ∀ x : Later w3, x.W.cell? ⟨w1.heap.size, 6, none⟩ = some (.int .u16 p6) := fun x => Later.cell (X := [p0, p1, p2, p3, p4, p5, p6, p7]) HX3.out x (j := 6) (by simp)
  have yx7 : ∀ x : Later w3, x.W.cell? ⟨w1.heap.size, 7, none⟩ = some (.int .u16 p7) := fun x => Later.cell (X := [p0, p1, p2, p3, p4, p5, p6, p7]) HX3.out x (j := 7) (by simp)
  have yy0 : ∀ x : Later w3, x.W.cell? ⟨w2.heap.size, 0, none⟩ = some (.int .u16 p0) := fun x => Later.cell (X := [p0, p1, p2, p3, p4, p5, p6, p7]) HY3.out x (j := 0) (by simp)
  have yy1 : ∀ x : Later w3, x.W.cell? ⟨w2.heap.size, 1, none⟩ = some (.int .u16 p1) := fun x => Later.cell (X := [p0, p1, p2, p3, p4, p5, p6, p7]) HY3.out x (j := 1) (by simp)
  have yy2 : ∀ x : Later w3, x.W.cell? ⟨w2.heap.size, 2, none⟩ = some (.int .u16 p2) := fun x => Later.cell (X := [p0, p1, p2, p3, p4, p5, p6, p7]) HY3.out x (j := 2) (by simp)
  have yy3 : ∀ x : Later w3, x.W.cell? ⟨w2.heap.size, 3, none⟩ = some (.int .u16 p3) := fun x => Later.cell (X := [p0, p1, p2, p3, p4, p5, p6, p7]) HY3.out x (j := 3) (by simp)
  have yy4 : ∀ x : Later w3, x.W.cell? ⟨w2.heap.size, 4, none⟩ = some (.int .u16 p4) := fun x => Later.cell (X := [p0, p1, p2, p3, p4, p5, p6, p7]) HY3.out x (j := 4) (by simp)
  have yy5 : ∀ x : Later w3, x.W.cell? ⟨w2.heap.size, 5, none⟩ = some (.int .u16 p5) := fun x => Later.cell (X := [p0, p1, p2, p3, p4, p5, p6, p7]) HY3.out x (j := 5) (by simp)
  have yy6 : ∀ x : Later w3, x.W.cell? ⟨w2.heap.size, 6, none⟩ = some (.int .u16 p6) := fun x => Later.cell (X := [p0, p1, p2, p3, p4, p5, p6, p7]) HY3.out x (j := 6) (by simp)
  have yy7 : ∀ x : Later w3, x.W.cell? ⟨w2.heap.size, 7, none⟩ = some (.int .u16 p7) := fun x => Later.cell (X := [p0, p1, p2, p3, p4, p5, p6, p7]) HY3.out x (j := 7) (by simp)
  have hk : ∀ x : Later w3, Below w.heap.size w x.W := fun x => HB3.out.trans (x.h.mono HB3.out.size)
  have K3 := hid (fun x : Later w3 => H3.out x.W (HK.out _ (hk x)))
  have K4 := hid (fun x : Later w3 => H4.out x.W (HTW.out _ (hk x)))
  have K7 := hid (fun x : Later w3 => HW.out x.W (HK.out _ (hk x)))
  have HKB := hid hk
  clear hk H3 H4 HW HK HTW HA3 HX3 HY3 HB3
  refine wp_region_quiet_in (by kernel_rfl) (by kernel_rfl) ?_
  repeat (go_big_quiet_step ((first | (go_at_call 10; exact Later.call _ (K3.out _)) | (go_at_call 11; exact Later.call _ (K4.out _)) | (go_at_call 7; exact Later.call _ (K7.out _)))))
  refine wpQuiet_nil ?_
  rintro _ ⟨x, rfl⟩
  have HE := hid (HKB.out x)
  obtain ⟨w4, hw4⟩ : ∃ w4, w4 = x.W := ⟨_, rfl⟩
  rw [← hw4] at HE ⊢
  clear hw4 x hne K3 K4 K7 HKB ya0 yx0 yy0 ya1 yx1 yy1 ya2 yx2 yy2 ya3 yx3 yy3 ya4 yx4 yy4 ya5 yx5 yy5 ya6 yx6 yy6 ya7 yx7 yy7
  go_wp2
  go_ret
  exact ⟨rfl, HE.out⟩
set_option maxRecDepth 100000 in
set_option maxHeartbeats 4000000 in
theorem tells_none {G : World → Prop} (C : Ctr G) (s : ByteArray) (a0 a1 a2 a3 a4 a5 a6 a7 : Nat) (hp : prs (bn s) = none) (w : World) (hG : G w) (hT : Tab w) (h1z : (s.size : Int) ≤ 8192) (hS : Small [a0, a1, a2, a3, a4, a5, a6, a7]) :
    Calls Tryd.prog 3 #[.string s, .agg #[.int .u16 a0, .int .u16 a1, .int .u16 a2, .int .u16 a3, .int .u16 a4, .int .u16 a5, .int .u16 a6, .int .u16 a7]] w fun e W' => e = .returned (.bool true) ∧ Below w.heap.size w W' := by
  obtain ⟨t, ht⟩ : ∃ t, bn t = txt [a0, a1, a2, a3, a4, a5, a6, a7] := by
    obtain ⟨e, w', fr, ⟨⟨t, _, ht⟩, _⟩, _⟩ := C.ct _ w rfl hS hG []
    exact ⟨t, ht⟩
  have HK : Hid (∀ W, Below w.heap.size w W → G W) := fun W h => C.keep w W hG h
  have HTW : Hid (∀ W, Below w.heap.size w W → Tab W) := fun W h => Tab.below h (Nat.le_refl _) hT
  have HW : Hid (∀ W, G W → _) := fun W h => works_any C W h
  have H1 : Hid (∀ W, G W → _) := fun W h => C.cpNo (by omega) hp W h
  have H2 : Hid (∀ W, Calls Tryd.prog 9 #[.string s] W fun e W' => e = .returned (.tuple #[.agg #[.int .u16 0, .int .u16 0, .int .u16 0, .int .u16 0, .int .u16 0, .int .u16 0, .int .u16 0, .int .u16 0], .bool false]) ∧ Below W.heap.size W W') := fun W => by
    have := rparse_any s W (by omega)
    unfold ParR at this
    rw [hp] at this
    exact this
  have H3 : Hid (∀ W, G W → Calls Tryd.prog 10 #[.agg #[.int .u16 a0, .int .u16 a1, .int .u16 a2, .int .u16 a3, .int .u16 a4, .int .u16 a5, .int .u16 a6, .int .u16 a7]] W fun e W' => e = .returned (.string t) ∧ Below W.heap.size W W') := fun W h => C.ctIs rfl hS ht.symm W h
  have H4 : Hid (∀ W, Tab W → Calls Tryd.prog 11 #[.agg #[.int .u16 a0, .int .u16 a1, .int .u16 a2, .int .u16 a3, .int .u16 a4, .int .u16 a5, .int .u16 a6, .int .u16 a7]] W fun e W' => e = .returned (.string t) ∧ Below W.heap.size W W') := fun W h => (rtext_any a0 a1 a2 a3 a4 a5 a6 a7 hS W h).mono (by
    rintro e W' ⟨⟨u, rfl, hu⟩, hB⟩
    obtain rfl := bn_inj (hu.trans ht.symm)
    exact ⟨rfl, hB⟩)
  have e1 := self_eq t
  have hq : ∀ W, (binOp .eql 23 (.agg #[.int .u16 0, .int .u16 0, .int .u16 0, .int .u16 0, .int .u16 0, .int .u16 0, .int .u16 0, .int .u16 0]) (.agg #[.int .u16 0, .int .u16 0, .int .u16 0, .int .u16 0, .int .u16 0, .int .u16 0, .int .u16 0, .int .u16 0])).run Tryd.prog W = .ok (.bool true) W := fun W => by
    have := eql_arr (X := [0, 0, 0, 0, 0, 0, 0, 0]) (Y := [0, 0, 0, 0, 0, 0, 0, 0]) rfl rfl W
    simpa [u16s] using this
  have HB : Hid (Below w.heap.size w w) := Below.refl _ _
  clear C hG hT hS ht hp
  go_enter Tryd.func3, Tryd.ntmps3
  go_wp2_with fail
  have HB0 := hid (HB.out.alloc HB.out.size (.cells #[.int .u16 a0, .int .u16 a1, .int .u16 a2, .int .u16 a3, .int .u16 a4, .int .u16 a5, .int .u16 a6, .int .u16 a7] 23))
  refine (H1.out _ (HK.out _ HB0.out)).mono ?_
  rintro e w1 ⟨rfl, B1⟩
  have HA1 := hid (show Below (w.heap.size + 1) (w.alloc (.cells (u16s [a0, a1, a2, a3, a4, a5, a6, a7]).toArray 23)) w1 from B1.mono (by simp))
  have HB1 := hid (HB0.out.trans (B1.mono HB0.out.size))
  clear B1 H1 HB0 HB
  go_wp2_with fail
  have HB1' := hid (HB1.out.alloc HB1.out.size (.cells #[.int .u16 0, .int .u16 0, .int .u16 0, .int .u16 0, .int .u16 0, .int .u16 0, .int .u16 0, .int .u16 0] 23))
  have HA1' := hid (HA1.out.alloc (by have := HA1.out.size; simpa using this) (.cells #[.int .u16 0, .int .u16 0, .int .u16 0, .int .u16 0, .int .u16 0, .int .u16 0, .int .u16 0, .int .u16 0] 23))
  refine (H2.out _).mono ?_
  rintro e w2 ⟨rfl, B2⟩
  have HX2 := hid (show Below (w1.heap.size + 1) (w1.alloc (.cells (u16s [0, 0, 0, 0, 0, 0, 0, 0]).toArray 23)) w2 from B2.mono (by simp))
  have HB2 := hid (HB1'.out.trans (B2.mono HB1'.out.size))
  have HA2 := hid (HA1'.out.trans (B2.mono (by have := HA1'.out.size; simpa using this)))
  clear B2 H2 HB1 HB1' HA1 HA1'
  have HB3 := hid (HB2.out.alloc HB2.out.size (.cells #[.int .u16 0, .int .u16 0, .int .u16 0, .int .u16 0, .int .u16 0, .int .u16 0, .int .u16 0, .int .u16 0] 23))
  have HA3 := hid (HA2.out.alloc (by have := HA2.out.size; simpa using this) (.cells #[.int .u16 0, .int .u16 0, .int .u16 0, .int .u16 0, .int .u16 0, .int .u16 0, .int .u16 0, .int .u16 0] 23))
  have HX3 := hid (HX2.out.alloc (by have := HX2.out.size; simpa using this) (.cells #[.int .u16 0, .int .u16 0, .int .u16 0, .int .u16 0, .int .u16 0, .int .u16 0, .int .u16 0, .int .u16 0] 23))
  have HY3 := hid (show Below (w2.heap.size + 1) (w2.alloc (.cells (u16s [0, 0, 0, 0, 0, 0, 0, 0]).toArray 23)) (w2.alloc (.cells #[.int .u16 0, .int .u16 0, .int .u16 0, .int .u16 0, .int .u16 0, .int .u16 0, .int .u16 0, .int .u16 0] 23)) from Below.refl _ _)
  clear HB2 HA2 HX2
  go_wp2_with fail
  obtain ⟨w3, hw3⟩ : ∃ w3, w2.alloc (.cells #[.int .u16 0, .int .u16 0, .int .u16 0, .int .u16 0, .int .u16 0, .int .u16 0, .int .u16 0, .int .u16 0] 23) = w3 := ⟨_, rfl⟩
  rw [hw3] at HB3 HA3 HX3 HY3 ⊢
  clear hw3
  have hne : Nonempty (Later w3) := ⟨⟨w3, Below.refl _ _⟩⟩
  have ya0 : ∀ x : Later w3, x.W.cell? ⟨w.heap.size, 0, none⟩ = some (.int .u16 a0) := fun x => Later.cell (X := [a0, a1, a2, a3, a4, a5, a6, a7]) HA3.out x (j := 0) (by simp)
  have ya1 : ∀ x : Later w3, x.W.cell? ⟨w.heap.size, 1, none⟩ = some (.int .u16 a1) := fun x => Later.cell (X := [a0, a1, a2, a3, a4, a5, a6, a7]) HA3.out x (j := 1) (by simp)
  have ya2 : ∀ x : Later w3, x.W.cell? ⟨w.heap.size, 2, none⟩ = some (.int .u16 a2) := fun x => Later.cell (X := [a0, a1, a2, a3, a4, a5, a6, a7]) HA3.out x (j := 2) (by simp)
  have ya3 : ∀ x : Later w3, x.W.cell? ⟨w.heap.size, 3, none⟩ = some (.int .u16 a3) := fun x => Later.cell (X := [a0, a1, a2, a3, a4, a5, a6, a7]) HA3.out x (j := 3) (by simp)
  have ya4 : ∀ x : Later w3, x.W.cell? ⟨w.heap.size, 4, none⟩ = some (.int .u16 a4) := fun x => Later.cell (X := [a0, a1, a2, a3, a4, a5, a6, a7]) HA3.out x (j := 4) (by simp)
  have ya5 : ∀ x : Later w3, x.W.cell? ⟨w.heap.size, 5, none⟩ = some (.int .u16 a5) := fun x => Later.cell (X := [a0, a1, a2, a3, a4, a5, a6, a7]) HA3.out x (j := 5) (by simp)
  have ya6 : ∀ x : Later w3, x.W.cell? ⟨w.heap.size, 6, none⟩ = some (.int .u16 a6) := fun x => Later.cell (X := [a0, a1, a2, a3, a4, a5, a6, a7]) HA3.out x (j := 6) (by simp)
  have ya7 : ∀ x : Later w3, x.W.cell? ⟨w.heap.size, 7, none⟩ = some (.int .u16 a7) := fun x => Later.cell (X := [a0, a1, a2, a3, a4, a5, a6, a7]) HA3.out x (j := 7) (by simp)
  have yx0 : ∀ x : Later w3, x.W.cell? ⟨w1.heap.size, 0, none⟩ = some (.int .u16 0) := fun x => Later.cell (X := [0, 0, 0, 0, 0, 0, 0, 0]) HX3.out x (j := 0) (by simp)
  have yx1 : ∀ x : Later w3, x.W.cell? ⟨w1.heap.size, 1, none⟩ = some (.int .u16 0) := fun x => Later.cell (X := [0, 0, 0, 0, 0, 0, 0, 0]) HX3.out x (j := 1) (by simp)
  have yx2 : ∀ x : Later w3, x.W.cell? ⟨w1.heap.size, 2, none⟩ = some (.int .u16 0) := fun x => Later.cell (X := [0, 0, 0, 0, 0, 0, 0, 0]) HX3.out x (j := 2) (by simp)
  have yx3 : ∀ x : Later w3, x.W.cell? ⟨w1.heap.size, 3, none⟩ = some (.int .u16 0) := fun x => Later.cell (X := [0, 0, 0, 0, 0, 0, 0, 0]) HX3.out x (j := 3) (by simp)
  have yx4 : ∀ x : Later w3, x.W.cell? ⟨w1.heap.size, 4, none⟩ = some (.int .u16 0) := fun x => Later.cell (X := [0, 0, 0, 0, 0, 0, 0, 0]) HX3.out x (j := 4) (by simp)
  have yx5 : ∀ x : Later w3, x.W.cell? ⟨w1.heap.size, 5, none⟩ = some (.int .u16 0) := fun x => Later.cell (X := [0, 0, 0, 0, 0, 0, 0, 0]) HX3.out x (j := 5) (by simp)
  have yx6 : ∀ x : Later w3, x.W.cell? ⟨w1.heap.size, 6, none⟩ = some (.int .u16 0) := fun x => Later.cell (X := [0, 0, 0, 0, 0, 0, 0, 0]) HX3.out x (j := 6) (by simp)
  have yx7 : ∀ x : Later w3, x.W.cell? ⟨w1.heap.size, 7, none⟩ = some (.int .u16 0) := fun x => Later.cell (X := [0, 0, 0, 0, 0, 0, 0, 0]) HX3.out x (j := 7) (by simp)
  have yy0 : ∀ x : Later w3, x.W.cell? ⟨w2.heap.size, 0, none⟩ = some (.int .u16 0) := fun x => Later.cell (X := [0, 0, 0, 0, 0, 0, 0, 0]) HY3.out x (j := 0) (by simp)
  have yy1 : ∀ x : Later w3, x.W.cell? ⟨w2.heap.size, 1, none⟩ = some (.int .u16 0) := fun x => Later.cell (X := [0, 0, 0, 0, 0, 0, 0, 0]) HY3.out x (j := 1) (by simp)
  have yy2 : ∀ x : Later w3, x.W.cell? ⟨w2.heap.size, 2, none⟩ = some (.int .u16 0) := fun x => Later.cell (X := [0, 0, 0, 0, 0, 0, 0, 0]) HY3.out x (j := 2) (by simp)
  have yy3 : ∀ x : Later w3, x.W.cell? ⟨w2.heap.size, 3, none⟩ = some (.int .u16 0) := fun x => Later.cell (X := [0, 0, 0, 0, 0, 0, 0, 0]) HY3.out x (j := 3) (by simp)
  have yy4 : ∀ x : Later w3, x.W.cell? ⟨w2.heap.size, 4, none⟩ = some (.int .u16 0) := fun x => Later.cell (X := [0, 0, 0, 0, 0, 0, 0, 0]) HY3.out x (j := 4) (by simp)
  have yy5 : ∀ x : Later w3, x.W.cell? ⟨w2.heap.size, 5, none⟩ = some (.int .u16 0) := fun x => Later.cell (X := [0, 0, 0, 0, 0, 0, 0, 0]) HY3.out x (j := 5) (by simp)
  have yy6 : ∀ x : Later w3, x.W.cell? ⟨w2.heap.size, 6, none⟩ = some (.int .u16 0) := fun x => Later.cell (X := [0, 0, 0, 0, 0, 0, 0, 0]) HY3.out x (j := 6) (by simp)
  have yy7 : ∀ x : Later w3, x.W.cell? ⟨w2.heap.size, 7, none⟩ = some (.int .u16 0) := fun x => Later.cell (X := [0, 0, 0, 0, 0, 0, 0, 0]) HY3.out x (j := 7) (by simp)
  have hk : ∀ x : Later w3, Below w.heap.size w x.W := fun x => HB3.out.trans (x.h.mono HB3.out.size)
  have K3 := hid (fun x : Later w3 => H3.out x.W (HK.out _ (hk x)))
  have K4 := hid (fun x : Later w3 => H4.out x.W (HTW.out _ (hk x)))
  have K7 := hid (fun x : Later w3 => HW.out x.W (HK.out _ (hk x)))
  have HKB := hid hk
  clear hk H3 H4 HW HK HTW HA3 HX3 HY3 HB3
  refine wp_region_quiet_in (by kernel_rfl) (by kernel_rfl) ?_
  repeat (go_big_quiet_step ((first | (go_at_call 10; exact Later.call _ (K3.out _)) | (go_at_call 11; exact Later.call _ (K4.out _)) | (go_at_call 7; exact Later.call _ (K7.out _)))))
  refine wpQuiet_nil ?_
  rintro _ ⟨x, rfl⟩
  have HE := hid (HKB.out x)
  obtain ⟨w4, hw4⟩ : ∃ w4, w4 = x.W := ⟨_, rfl⟩
  rw [← hw4] at HE ⊢
  clear hw4 x hne K3 K4 K7 HKB ya0 yx0 yy0 ya1 yx1 yy1 ya2 yx2 yy2 ya3 yx3 yy3 ya4 yx4 yy4 ya5 yx5 yy5 ya6 yx6 yy6 ya7 yx7 yy7
  go_wp2
  go_ret
  exact ⟨rfl, HE.out⟩
set_option maxRecDepth 100000 in
set_option maxHeartbeats 4000000 in
theorem tells_walk {G : World → Prop} (C : Ctr G) (s : ByteArray) (a0 a1 a2 a3 a4 a5 a6 a7 : Nat) (w : World) (hG : G w) (hT : Tab w) (hs : s.size ≤ maxLen) (hS : Small [a0, a1, a2, a3, a4, a5, a6, a7]) :
    Calls Tryd.prog 3 #[.string s, .agg #[.int .u16 a0, .int .u16 a1, .int .u16 a2, .int .u16 a3, .int .u16 a4, .int .u16 a5, .int .u16 a6, .int .u16 a7]] w fun e W' => e = .returned (.bool true) ∧ Below w.heap.size w W' := by
  unfold maxLen at hs
  by_cases h1 : 8192 < s.size
  · have HW0 := hid (fun W hB => works_any C W (C.keep w W hG hB))
    have HB0 := hid ((Below.refl w.heap.size w).alloc (Nat.le_refl _) (.cells #[.int .u16 a0, .int .u16 a1, .int .u16 a2, .int .u16 a3, .int .u16 a4, .int .u16 a5, .int .u16 a6, .int .u16 a7] 23))
    clear hS hT C
    go_enter Tryd.func3, Tryd.ntmps3
    go_wp2_with (go_at_call 7; refine (HW0.out _ HB0.out).mono ?_; rintro e w1 ⟨rfl, B1⟩)
    go_ret
    exact ⟨rfl, HB0.out.trans (B1.mono HB0.out.size)⟩
  have h1z : (s.size : Int) ≤ 8192 := by omega
  cases hp : prs (bn s) with
  | none => exact tells_none C s a0 a1 a2 a3 a4 a5 a6 a7 hp w hG hT h1z hS
  | some v =>
    have hl := prs_len hp
    obtain ⟨p0, p1, p2, p3, p4, p5, p6, p7, rfl⟩ : ∃ p0 p1 p2 p3 p4 p5 p6 p7, v = [p0, p1, p2, p3, p4, p5, p6, p7] := by
      match v, hl with
      | [p0, p1, p2, p3, p4, p5, p6, p7], _ => exact ⟨p0, p1, p2, p3, p4, p5, p6, p7, rfl⟩
    exact tells_some C s a0 a1 a2 a3 a4 a5 a6 a7 p0 p1 p2 p3 p4 p5 p6 p7 hp w hG hT h1z hS
end Go.Proofs.YtpkmpebhlolhaaaDoor.X
