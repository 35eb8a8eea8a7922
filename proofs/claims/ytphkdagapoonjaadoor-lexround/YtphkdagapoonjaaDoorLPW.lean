/- The law's alive. (Stage 15.) -/
import Derived.Test.YtphkdagapoonjaaDoorLPV
namespace Go.Proofs.YtphkdagapoonjaaDoor.Lx
open Go.RowKit
open Go.Proofs.YtphkdagapoonjaaDoor.F (bn bn_length bn_append bn_inj bn_get byte_bd hid bn_extract isEmpty_false isEmpty_true str_eq same_eq)
open Go.Proofs.YtphkdagapoonjaaDoor.U (nx enc encs scal val Bytes)
set_option linter.unusedVariables false

theorem TokAt.below {w W : World} {v : Value} {l : List Tb} (h : TokAt w v l) (hb : Below w.heap.size w W) : TokAt W v l := by
  obtain ⟨a, cap, e, h0, hc⟩ := h
  refine ⟨a, cap, e, h0, fun hl => ?_⟩
  obtain ⟨b, off, ea, hcell⟩ := hc hl
  refine ⟨b, off, ea, fun j c hj hc4 => ?_⟩
  have h1 := hcell j c hj hc4
  have hlen : (cells4 (l[j]?.getD z4)).length = 4 := rfl
  obtain ⟨x, hx⟩ : ∃ x, (cells4 (l[j]?.getD z4))[c]? = some x := ⟨_, List.getElem?_eq_getElem (by omega)⟩
  rw [hx] at h1 ⊢
  exact keeps hb h1
/-- What alive looks at, of the first answer. -/
theorem cells_A {w : World} {a : Option Addr} {c : Nat} (h : TokAt w (.slice a 6 c) tA) : ∃ b off, a = some ⟨b, off, none⟩ ∧
    (w.cell? ⟨b, off + 2 * 4, none⟩ = some (.int .u8 2) ∧ w.cell? ⟨b, off + 2 * 4 + 1, none⟩ = some (.string ⟨#[98, 195, 188, 99, 104, 101, 114, 46, 100, 101]⟩) ∧ w.cell? ⟨b, off + 2 * 4 + 2, none⟩ = some (.int .i64 1) ∧ w.cell? ⟨b, off + 2 * 4 + 3, none⟩ = some (.int .i64 11)) ∧
    (w.cell? ⟨b, off + 4 * 4, none⟩ = some (.int .u8 1) ∧ w.cell? ⟨b, off + 4 * 4 + 1, none⟩ = some (.string ⟨#[120]⟩) ∧ w.cell? ⟨b, off + 4 * 4 + 2, none⟩ = some (.int .i64 3) ∧ w.cell? ⟨b, off + 4 * 4 + 3, none⟩ = some (.int .i64 0)) ∧
    w.cell? ⟨b, off + 5 * 4 + 3, none⟩ = some (.int .i64 1) := by
  obtain ⟨b, off, rfl, h0, h1, h2, h3⟩ := h.cell (i := 2) (by decide)
  obtain ⟨b', off', e', h4, h5, h6, h7⟩ := h.cell (i := 4) (by decide)
  injection e' with e'; injection e' with e1 e2 _; subst e1; subst e2
  obtain ⟨b', off', e', h8, h9, ha, hb⟩ := h.cell (i := 5) (by decide)
  injection e' with e'; injection e' with e1 e2 _; subst e1; subst e2
  exact ⟨b, off, rfl, ⟨h0, h1, h2, h3⟩, ⟨h4, h5, h6, h7⟩, hb⟩
set_option maxRecDepth 100000 in
set_option maxHeartbeats 8000000 in
theorem alive_any (w : World) (G : Gl w) : Calls Tryd.prog 6 #[] w fun e w' => e = .returned (.bool true) ∧ Below w.heap.size w w' := by
  have HG := hid (fun W (h : Below w.heap.size w W) => G.below h)
  have H1 := hid (lex_any cA (by decide) w G)
  clear G
  unfold cA at H1
  go_enter Tryd.func6, Tryd.ntmps6
  go_wp2_with fail
  refine H1.out.mono ?_
  rintro e w1 ⟨hq, B1⟩
  clear H1
  obtain ⟨a, c, rfl, hat⟩ := ln_A hq
  clear hq
  have HT := hid hat
  have HB := hid B1
  clear hat B1
  have HB1 : Hid (Below w.heap.size w (w1.alloc (.cells #[.int .i64 0, .int .i64 0, .int .i64 0] 29))) := HB.out.alloc HB.out.size _
  have HA1 : Hid (Below w1.heap.size w1 (w1.alloc (.cells #[.int .i64 0, .int .i64 0, .int .i64 0] 29))) := (Below.refl _ _).alloc (Nat.le_refl _) _
  have HC0 : Hid ((w1.alloc (.cells #[.int .i64 0, .int .i64 0, .int .i64 0] 29)).cell? ⟨w1.heap.size, 0, none⟩ = some (.int .i64 0)) := World.cell?_alloc_new w1 _ _ 0
  obtain ⟨b, off, rfl, ⟨p0, p1, p2, p3⟩, ⟨p4, p5, p6, p7⟩, p8⟩ := cells_A HT.out
  have H2 := hid (lex_any cB (by decide) _ (HG.out _ HB1.out))
  unfold cB at H2
  go_wp2_with fail
  refine H2.out.mono ?_
  rintro e w2 ⟨hq, B2⟩
  clear H2
  obtain ⟨v2, rfl⟩ := ln_B hq
  clear hq
  have HB2 : Hid (Below w1.heap.size w1 w2) := HA1.out.trans (B2.mono HA1.out.size)
  have hc0 : w2.cell? ⟨w1.heap.size, 0, none⟩ = some (.int .i64 0) := keeps B2 HC0.out
  have HS2 : Hid (w1.heap.size ≤ w2.heap.size) := HB2.out.size
  clear B2 HC0 HA1 HB1
  have HB3 : Hid (Below w1.heap.size w1 (w2.alloc (.cells #[.int .i64 151, .int .i64 1, .int .i64 2] 29))) := HB2.out.alloc HB2.out.size _
  have HA3 : Hid (Below w2.heap.size w2 (w2.alloc (.cells #[.int .i64 151, .int .i64 1, .int .i64 2] 29))) := (Below.refl _ _).alloc (Nat.le_refl _) _
  have HC3 : Hid ((w2.alloc (.cells #[.int .i64 151, .int .i64 1, .int .i64 2] 29)).cell? ⟨w2.heap.size, 0, none⟩ = some (.int .i64 151)) := World.cell?_alloc_new w2 _ _ 0
  have HC4 : Hid ((w2.alloc (.cells #[.int .i64 151, .int .i64 1, .int .i64 2] 29)).cell? ⟨w2.heap.size, 1, none⟩ = some (.int .i64 1)) := World.cell?_alloc_new w2 _ _ 1
  have HC5 : Hid ((w2.alloc (.cells #[.int .i64 151, .int .i64 1, .int .i64 2] 29)).cell? ⟨w2.heap.size, 2, none⟩ = some (.int .i64 2)) := World.cell?_alloc_new w2 _ _ 2
  have H3 := hid (write_any _ 6 c tA (w2.alloc (.cells #[.int .i64 151, .int .i64 1, .int .i64 2] 29)) (HT.out.below HB3.out) (by decide) sml_A (HG.out _ (HB.out.trans (HB3.out.mono HB.out.size))))
  go_wp2_with fail
  refine H3.out.mono ?_
  rintro e w3 ⟨hq, B3⟩
  clear H3
  obtain rfl := wn_A hq
  unfold cC
  clear hq
  replace hc0 := keeps B3 (keeps HA3.out hc0)
  have q0 := keeps B3 HC3.out
  have q1 := keeps B3 HC4.out
  have q2 := keeps B3 HC5.out
  have HF : Hid (Below w.heap.size w w3) := HB.out.trans ((HB3.out.trans (B3.mono HB3.out.size)).mono HB.out.size)
  have HG1 : Hid (Below w1.heap.size w1 w3) := HB3.out.trans (B3.mono HB3.out.size)
  replace p0 := keeps HG1.out p0
  replace p1 := keeps HG1.out p1
  replace p2 := keeps HG1.out p2
  replace p3 := keeps HG1.out p3
  replace p4 := keeps HG1.out p4
  replace p5 := keeps HG1.out p5
  replace p6 := keeps HG1.out p6
  replace p7 := keeps HG1.out p7
  replace p8 := keeps HG1.out p8
  clear HC3 HC4 HC5 HA3 HB3 B3 HS2 HB2 HB HG1 HG HT
  have HQ1 : ∀ w, (binOp .eql 35 (.agg #[.int .u8 2, .string ⟨#[98, 195, 188, 99, 104, 101, 114, 46, 100, 101]⟩, .int .i64 1, .int .i64 11]) (.agg #[.int .u8 2, .string ⟨#[98, 195, 188, 99, 104, 101, 114, 46, 100, 101]⟩, .int .i64 1, .int .i64 11])).run Tryd.prog w = .ok (.bool true) w := fun w => (eql_tok ⟨2, ⟨#[98, 195, 188, 99, 104, 101, 114, 46, 100, 101]⟩, 1, 11⟩ ⟨2, ⟨#[98, 195, 188, 99, 104, 101, 114, 46, 100, 101]⟩, 1, 11⟩ w).trans (by rw [eqt_iff.2 rfl])
  have HQ2 : ∀ w, (binOp .eql 35 (.agg #[.int .u8 1, .string ⟨#[120]⟩, .int .i64 3, .int .i64 0]) (.agg #[.int .u8 1, .string ⟨#[120]⟩, .int .i64 3, .int .i64 0])).run Tryd.prog w = .ok (.bool true) w := fun w => (eql_tok ⟨1, ⟨#[120]⟩, 3, 0⟩ ⟨1, ⟨#[120]⟩, 3, 0⟩ w).trans (by rw [eqt_iff.2 rfl])
  have HQ3 : ∀ w, (binOp .eql 29 (.agg #[.int .i64 151, .int .i64 1, .int .i64 2]) (.agg #[.int .i64 151, .int .i64 1, .int .i64 2])).run Tryd.prog w = .ok (.bool true) w := fun w => eql_flt 151 1 2 151 1 2 w
  go_wp2
  go_ret
  exact ⟨rfl, HF.out⟩
end Go.Proofs.YtphkdagapoonjaaDoor.Lx
