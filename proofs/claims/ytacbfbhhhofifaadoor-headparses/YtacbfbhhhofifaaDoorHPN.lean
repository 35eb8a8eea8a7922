/- head: Feed, its ways out. (Stage 19.) -/
import Derived.Test.YtacbfbhhhofifaaDoorHPM
import Derived.Test.YtacbfbhhhofifaaDoorGU
namespace Go.Proofs.YtacbfbhhhofifaaDoor.Hd
open Go.RowKit
open Go.Proofs.YtacbfbhhhofifaaDoor.F (bn bn_length bn_append bn_inj bn_get byte_bd hid bn_extract isEmpty_false isEmpty_true str_eq same_eq)
set_option linter.unusedVariables false

/-- What is left is told by what is answered alone. -/
theorem leaves_tmps {P : Program} {fn : Func} {x y : Array Value} {R : Ending → World → Prop} (h : ∀ w, (results fn x).run P w = (results fn y).run P w) : ∀ (ds : List Deferred) (u : FrameMode) (w : World), Leaves P fn x R ds u w → Leaves P fn y R ds u w
  | [], .returning, w, hh => by
    obtain ⟨v, h1, h2⟩ := hh
    exact ⟨v, (h w).symm.trans h1, h2⟩
  | [], .panicking _, _, hh => hh
  | [], .run, _, hh => hh
  | d :: ds, u, w, hh => by
    obtain ⟨h1, fv, cap, f, args, h2, h3, h4⟩ := hh
    refine ⟨h1, fv, cap, f, args, h2, h3, h4.mono ?_⟩
    intro e u' w' he
    cases e with
    | returned v => exact leaves_tmps h ds _ _ he
    | panicked c => exact leaves_tmps h ds _ _ he
    | outgrown => exact he
theorem feed_res : Tryd.f17.results = #[.tmp 4, .tmp 5, .cell 6 28] := rfl
theorem feed_put (a : Act) (t : Nat) (v : Value) (ht : 7 ≤ t) (w : World) : (results Tryd.f17 (a.put (some t) v).tmps).run Tryd.prog w = (results Tryd.f17 a.tmps).run Tryd.prog w := by
  have t4 : t ≠ 4 := by omega
  have t5 : t ≠ 5 := by omega
  have t6 : t ≠ 6 := by omega
  simp only [results, feed_res, Act.put]
  have e4 : (a.tmps.setIfInBounds t v)[4]?.getD undef = a.tmps[4]?.getD undef := by rw [Array.getElem?_setIfInBounds_ne t4]
  have e5 : (a.tmps.setIfInBounds t v)[5]?.getD undef = a.tmps[5]?.getD undef := by rw [Array.getElem?_setIfInBounds_ne t5]
  have e6 : (a.tmps.setIfInBounds t v)[6]?.getD undef = a.tmps[6]?.getD undef := by rw [Array.getElem?_setIfInBounds_ne t6]
  simp [e4, e5, e6]
def highB : Option Tmp → Bool
  | some t => decide (7 ≤ t)
  | none => true
theorem feed_panic_put {R : Ending → World → Prop} (c : List PanicEntry) (a : Act) (d : Option Tmp) (v : Value) (w : World) (hd : highB d = true) (h : bodyPostD Tryd.prog Tryd.f17 R (.panic c) (a.put d v) w) : bodyPostD Tryd.prog Tryd.f17 R (.panic c) a w := by
  cases d with
  | none => exact h
  | some t =>
    have ht : 7 ≤ t := of_decide_eq_true hd
    exact leaves_tmps (feed_put a t v ht) _ _ _ h
theorem feed_end {W : World} {Be : Nat} {r : Int} (he : Boxed W Be 28 (.int .i64 r)) (tmps : Array Value) (h6 : tmps.getD 6 undef = .pointer (some ⟨Be, 0, none⟩)) :
    (results Tryd.f17 tmps).run Tryd.prog W = .ok (.tuple #[tmps.getD 4 undef, tmps.getD 5 undef, .int .i64 r]) W := by
  have c2 := he.cell
  have h6' : tmps[6]?.getD undef = .pointer (some ⟨Be, 0, none⟩) := by simpa using h6
  have hl2 : (loadVar 28 ⟨Be, 0, none⟩).run Tryd.prog W = .ok (.int .i64 r) W := by go_simp
  simp only [results, feed_res]
  simp [Result.andThen, h6', asAddr, hl2]
def feedD (Be Br : Nat) : List Deferred := [{ target := .fn (.func 31) #[.pointer (some ⟨Be, 0, none⟩), .pointer (some ⟨Br, 0, none⟩)], args := #[] }]
/-- How a panic ends. -/
theorem feed_caught {R : Ending → World → Prop} {base Be Br b k n : Nat} {y : Int} {w : World} (tmps : Array Value) (h6 : tmps.getD 6 undef = .pointer (some ⟨Be, 0, none⟩)) (e1 : base ≤ Be) (he : Boxed w Be 28 (.int .i64 y)) (hr : Boxed w Br 45 (.pointer (some ⟨b, 0, none⟩))) (hm : Ruin base w b n)
    (h : ∀ w', Brk base w' b n k → Below base w w' → R (.returned (.tuple #[tmps.getD 4 undef, tmps.getD 5 undef, .int .i64 k])) w') :
    Leaves Tryd.prog Tryd.f17 tmps R (feedD Be Br) (.panicking (faultV k)) w := by
  refine leaves_cons (f := 31) (args := #[.pointer (some ⟨Be, 0, none⟩), .pointer (some ⟨Br, 0, none⟩)]) (by simp) (by simp [go_sem]) ?_
  refine (catch_panicking base Be Br b e1 y k n w he hr hm).mono ?_
  rintro e u' w' ⟨rfl, rfl, h1, h2, hB⟩
  show Leaves _ _ _ _ [] (settle _) w'
  simp only [settle]
  exact ⟨_, feed_end h1 tmps h6, h w' h2 hB⟩
/-- How nothing is caught. -/
theorem feed_idle {R : Ending → World → Prop} {Be Br : Nat} {r : Int} {w : World} (tmps : Array Value) (h6 : tmps.getD 6 undef = .pointer (some ⟨Be, 0, none⟩)) (he : Boxed w Be 28 (.int .i64 r))
    (h : R (.returned (.tuple #[tmps.getD 4 undef, tmps.getD 5 undef, .int .i64 r])) w) :
    Leaves Tryd.prog Tryd.f17 tmps R (feedD Be Br) .returning w := by
  refine leaves_cons (f := 31) (args := #[.pointer (some ⟨Be, 0, none⟩), .pointer (some ⟨Br, 0, none⟩)]) (by simp) (by simp [go_sem]) ?_
  refine (catch_idle Be Br w).mono ?_
  rintro e u' w' ⟨rfl, rfl, rfl⟩
  show Leaves _ _ _ _ [] (settle _) w'
  simp only [settle]
  exact ⟨_, feed_end he tmps h6, h⟩
/-- The two boxes. -/
def fed2 (W : World) (p : Value) : World := (W.alloc (.cells #[p] 45)).alloc (.cells #[.int .i64 0] 28)
theorem fed2_below (W : World) (p : Value) : Below W.heap.size W (fed2 W p) := ((Below.refl _ W).alloc (Nat.le_refl _) _).alloc (by simp) _
theorem fed2_r (W : World) (p : Value) : Boxed (fed2 W p) W.heap.size 45 p := (Boxed.new W 45 p).alloc (.cells #[.int .i64 0] 28)
theorem fed2_e (W : World) (p : Value) : Boxed (fed2 W p) (W.heap.size + 1) 28 (.int .i64 0) := by
  have h := Boxed.new (W.alloc (.cells #[p] 45)) 28 (.int .i64 0)
  rw [World.size_alloc] at h
  exact h
theorem fed2_size (W : World) (p : Value) : (fed2 W p).heap.size = W.heap.size + 2 := by simp [fed2]
set_option maxRecDepth 100000 in
set_option maxHeartbeats 4000000 in
theorem feed_nil (s : ByteArray) (W : World) : Calls Tryd.prog 17 #[.pointer none, .string s] W fun e W' => e = .returned (.tuple #[.int .i64 0, .bool false, .int .i64 1]) ∧ Below W.heap.size W W' := by
  have HR := hid (fed2_r W (.pointer none))
  have HE := hid (fed2_e W (.pointer none))
  have HB := hid (fed2_below W (.pointer none))
  obtain ⟨W2, hW2⟩ : ∃ x, fed2 W (.pointer none) = x := ⟨_, rfl⟩
  rw [hW2] at HR HE HB
  have c0 := HR.out.cell
  have ce := HE.out.cell
  have fe := HE.out.frozen
  have HM := hid (made_nil W2)
  go_enter_defers Tryd.func17, Tryd.ntmps17
  go_upto_region 1 with fail
  show Code.wp _ _ _ _ (fed2 W (.pointer none))
  rw [hW2]
  clear hW2
  go_wp2_with (go_at_call 30; refine HM.out.mono ?_; rintro e w1 ⟨rfl, rfl⟩)
  exact ⟨_, feed_end (HE.out.set (.int .i64 1)) _ rfl, rfl, HB.out.setCell (p := ⟨W.heap.size + 1, 0, none⟩) (Nat.le_succ _) _⟩
end Go.Proofs.YtacbfbhhhofifaaDoor.Hd
