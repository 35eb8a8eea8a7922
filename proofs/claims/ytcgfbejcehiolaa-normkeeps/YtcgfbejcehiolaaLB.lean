/- The walk of NormKeeps: it returns true, whatever row. -/
import Derived.Test.YtcgfbejcehiolaaCD
import Derived.Test.YtcgfbejcehiolaaPA
import Derived.ArgAppend
import Derived.Deep.Upon
import Derived.Deep.RegionLaw
namespace Go.Proofs.Ytcgfbejcehiolaa
open Go.RowKit
set_option linter.unusedVariables false

/-- The slice value v leads to the numbers zs, and has room for them. -/
def LeftAt (W : World) (v : Value) (zs : List Int) : Prop :=
  ∃ a cap, v = .slice a zs.length cap ∧ zs.length ≤ cap ∧ cap ≤ maxLen ∧ (0 < zs.length → ∃ b, a = some ⟨b, 0, none⟩ ∧ b < W.heap.size ∧ ∀ j, j < zs.length → W.cell? ⟨b, j, none⟩ = some (.int .i32 (zs[j]?.getD 0)))
theorem LeftAt.of_own {W : World} {base n : Nat} {v : Value} {zs : List Int} (hn : n = zs.length) (h : W.ownsRow base 21 1 v n (zs.map (Value.int .i32))) : LeftAt W v zs := by
  have hr := Row21.of_own hn h
  subst hn
  rcases h.2 with ⟨rfl, h0⟩ | ⟨g, cap, cur, rfl, _, hg, hnc, hcm, _⟩
  · exact ⟨none, 0, by rw [h0], by omega, by unfold maxLen; omega, fun hp => by omega⟩
  · refine ⟨_, cap, rfl, hnc, hcm, fun hp => ?_⟩
    obtain ⟨b, e, hb, hc⟩ := hr.cell rfl hp
    exact ⟨b, e, hb, hc⟩
theorem LeftAt.below {W W' : World} {v : Value} {zs : List Int} (h : LeftAt W v zs) (hB : Below W.heap.size W W') : LeftAt W' v zs := by
  obtain ⟨a, cap, e, h1, h2, hf⟩ := h
  refine ⟨a, cap, e, h1, h2, fun hp => ?_⟩
  obtain ⟨b, e2, hb, hc⟩ := hf hp
  exact ⟨b, e2, Nat.lt_of_lt_of_le hb hB.size, fun j hj => (hB.cell (p := ⟨b, j, none⟩) hb).trans (hc j hj)⟩
theorem Try.sizeOf22' (W : World) : (sizeOf (Try.prog.elem 22)).run Try.prog W = .ok 1 W := by kernel_rfl

/-- One is left away: what stands ahead of it, and what stands behind it, side by side. -/
theorem without_any {W : World} {b n cap f : Nat} {zs : List Int} (h : LeftAt W (.slice (some ⟨b, 0, none⟩) n cap) zs) (hn : n = zs.length) (hf : f < n) (hsz : n ≤ 100000) :
    ∃ vl vr v' w', (∀ W2, (Instr.slice 22 (.slice (some ⟨b, 0, none⟩) n cap) none (some (.int .i64 (f : Nat))) (some (.int .i64 (f : Nat)))).run Try.prog W2 = .ok vl W2) ∧
      (∀ W2, (Instr.slice 22 (.slice (some ⟨b, 0, none⟩) n cap) (some (.int .i64 ((f : Int) + 1))) none none).run Try.prog W2 = .ok vr W2) ∧
      (Builtin.append_ #[22, 22] 22 #[vl, vr]).run Try.prog W = .ok v' w' ∧ LeftAt w' v' (zs.take f ++ zs.drop (f + 1)) ∧ Below W.heap.size W w' := by
  obtain ⟨a, cap', e, hnc, hcm, hfx⟩ := h
  cases e
  obtain ⟨b', e2, hb, hc⟩ := hfx (by omega)
  cases e2
  obtain ⟨i0, hi, hz0, hz1, hz2⟩ := info_parts info21
  refine ⟨.slice (some ⟨b, 0, none⟩) f f, .slice (if cap = f + 1 then some ⟨b, 0, none⟩ else some ⟨b, f + 1, none⟩) (zs.length - (f + 1)) (cap - (f + 1)), ?_⟩
  have hr1 : ∀ W2, (Instr.slice 22 (.slice (some ⟨b, 0, none⟩) zs.length cap) none (some (.int .i64 (f : Nat))) (some (.int .i64 (f : Nat)))).run Try.prog W2 = .ok (.slice (some ⟨b, 0, none⟩) f f) W2 := fun W2 => by
    rw [run_slice_hm W2 22 (some ⟨b, 0, none⟩) zs.length cap (by kernel_rfl) .i64 .i64 (f : Int) (f : Int) (by omega) (by omega) (by omega), Try.sizeOf22' W2]
    simp only [Result.andThen, sliced, Int.toNat_natCast]
    split <;> simp [Addr.add]
  have hr2 : ∀ W2, (Instr.slice 22 (.slice (some ⟨b, 0, none⟩) zs.length cap) (some (.int .i64 ((f : Int) + 1))) none none).run Try.prog W2 = .ok (.slice (if cap = f + 1 then some ⟨b, 0, none⟩ else some ⟨b, f + 1, none⟩) (zs.length - (f + 1)) (cap - (f + 1))) W2 := fun W2 => by
    rw [run_slice_l W2 22 (some ⟨b, 0, none⟩) zs.length cap (by kernel_rfl) .i64 ((f : Int) + 1) (by omega) (by omega), Try.sizeOf22' W2]
    have e1 : ((f : Int) + 1).toNat = f + 1 := by omega
    simp only [Result.andThen, sliced, e1]
    split <;> simp [Addr.add]
  have hft : (zs.take f).length = f := by rw [List.length_take]; omega
  by_cases hm : zs.length - (f + 1) = 0
  · have hdr : zs.drop (f + 1) = [] := List.drop_of_length_le (by omega)
    have hadr : ∃ x : Addr, (if cap = f + 1 then some (⟨b, 0, none⟩ : Addr) else some ⟨b, f + 1, none⟩) = some x := by split <;> exact ⟨_, rfl⟩
    obtain ⟨x, hx⟩ := hadr
    refine ⟨.slice (some ⟨b, 0, none⟩) f f, W, hr1, hr2, ?_, ?_, Below.refl _ _⟩
    · rw [hx, hm]
      exact run_append_nothing W 22 22 22 21 i0 Try.underlying22 hi (some ⟨b, 0, none⟩) f f (Nat.le_refl _) _ (Src.ofSlice W Try.underlying22 x 0 (cap - (f + 1)) [] (by simp) (fun j u h => by simp at h) (fun u h => by cases h))
    · rw [hdr, List.append_nil]
      refine ⟨some ⟨b, 0, none⟩, f, by rw [hft], by rw [hft]; exact Nat.le_refl _, by omega, fun hp => ⟨b, rfl, hb, fun j hj => ?_⟩⟩
      rw [hft] at hj
      rw [hc j (by omega), List.getElem?_take_of_lt hj]
  · have hcf : cap ≠ f + 1 := by omega
    have hdl : (zs.drop (f + 1)).length = zs.length - (f + 1) := List.length_drop
    obtain ⟨v', w', hrun, hown, hgr⟩ := run_append_arg_grows (P := Try.prog) W 22 22 21 i0 (.int .i32 0) 1 4 Try.underlying22 hi hz0 hz1 hz2 rfl (by decide) ⟨b, 0, none⟩ f f ((zs.take f).map (Value.int .i32)) (by rw [List.length_map, hft]; omega)
      (fun j u hj => by
        rw [List.getElem?_map] at hj
        obtain ⟨c, hc', rfl⟩ := Option.map_eq_some_iff.1 hj
        have hjl := (List.getElem?_eq_some_iff.1 hc').1
        rw [hft] at hjl
        rw [List.getElem?_take_of_lt hjl] at hc'
        rw [U.addr_add0, hc j (by omega), hc']; rfl)
      ⟨b, f + 1, none⟩ (zs.length - (f + 1)) (cap - (f + 1)) ((zs.drop (f + 1)).map (Value.int .i32)) (by rw [List.length_map, hdl]; omega)
      (fun j u hj => by
        rw [List.getElem?_map] at hj
        obtain ⟨c, hc', rfl⟩ := Option.map_eq_some_iff.1 hj
        rw [List.getElem?_drop] at hc'
        have hjl := (List.getElem?_eq_some_iff.1 hc').1
        rw [Addr.add_lit, hc (f + 1 + j) hjl, hc']; rfl)
      (by omega) (by unfold maxLen; omega) (by omega)
    rw [if_neg hcf] at hr2 ⊢
    refine ⟨v', w', hr1, hr2, hrun, ?_, ⟨hgr.os, hgr.tape, hgr.output, hgr.size, fun k hk => hgr.block k hk (by simp)⟩⟩
    rw [← List.map_append] at hown
    exact LeftAt.of_own (by rw [List.length_append, hft, hdl]) hown
theorem perm_out {zs O : List Int} {x : Int} {f : Nat} (hp : zs.Perm (x :: O)) (hf : f < zs.length) (hx : zs[f]?.getD 0 = x) : (zs.take f ++ zs.drop (f + 1)).Perm O := by
  have h1 : zs = zs.take f ++ x :: zs.drop (f + 1) := by
    rw [List.getElem?_eq_getElem hf] at hx
    have hx : zs[f] = x := hx
    rw [← hx, ← List.drop_eq_getElem_cons hf, List.take_append_drop]
  rw [h1] at hp
  exact (List.perm_cons x).1 ((List.perm_middle.symm).trans hp)
/-- append, whatever it comes to, as one step of a region that draws. -/
theorem step_append_run {P : Program} {ops : Array Oper} {o : Oper} {a : Act} {w : World} {K : Act → World → Prop} {Q : Exit → Act → World → Prop} {E : Prop}
    (hg : o.guard = none) (s x : Operand) (t : TypeId) (hop : o.op = Op.call { callee := Callee.builtin Builtin.append, args := #[s, x], argTypes := #[t, t] })
    (vl vr v' : Value) (w' : World) (hs : a.eval s = vl) (hx : a.eval x = vr) (hrun : (Builtin.append_ #[t, t] o.type #[vl, vr]).run P w = .ok v' w') (hK : K (a.put o.dst v') w') :
    if Region.wanted o (yielded ops a.tmps) = true then Oper.wp P o a w K Q else E := by
  have hw : Region.wanted o (yielded ops a.tmps) = true := by simp [Region.wanted, hg]
  rw [if_pos hw]
  unfold Oper.wp
  simp [execOp, hop, resolve, invoke, builtin, hs, hx, hrun, Result.andThen]
  exact hK
theorem dec_true' {α : Type} [DecidableEq α] {a b : α} (h : a = b) : decide (a = b) = true := decide_eq_true h
theorem own_sh' {base n : Nat} {v : Value} {X : List Value} {W : World} (h : W.ownsRow base 21 1 v n X) : ∃ a cap, v = .slice a n cap := by
  rcases h.2 with ⟨rfl, h0⟩ | ⟨g, cap, cur, rfl, _⟩
  · exact ⟨none, 0, by rw [h0]⟩
  · exact ⟨_, cap, rfl⟩

set_option maxRecDepth 100000 in
set_option maxHeartbeats 8000000 in
theorem keeps_walk (a : Option Addr) (len cap : Nat) (z : List Int) (w : World) (h0 : U.IsRow .i32 w a len cap z) :
    Calls Try.prog 5 #[.slice a len cap] w fun e w' => e = .returned (.bool true) ∧ Below w.heap.size w w' := by
  have hl := U.row_max h0
  unfold maxLen at hl
  by_cases h1 : 300 < len
  · go_enter Try.func5, Try.ntmps5
    go_wp2_with fail
    refine (works_any _).mono ?_
    rintro e w' ⟨rfl, hB⟩
    go_wp2
    go_ret
    exact ⟨rfl, hB⟩
  · have SA := hid (U.row_src h0)
    have hL := U.row_len h0
    generalize z.take len = L at SA hL
    subst hL
    have hol := ordI_len L
    have HPERM := hid (ordI_perm L)
    have e1 := dec_true' (ord_ord L)
    have E1 := hid e1
    clear e1
    have HOL2 := hid (ordI_len (ordI L))
    clear h0
    go_enter Try.func5, Try.ntmps5
    go_wp2_with fail
    refine (copied_any _ L _ (by omega) SA.out).mono ?_
    rintro e W1 ⟨v1, rfl, r1, B1⟩
    have SB := hid (U.SrcInts.below B1 (Nat.le_refl _) SA.out)
    have HB1 := hid B1
    obtain ⟨a1, c1, rfl⟩ := own_sh' r1
    have R1 := hid r1
    clear r1 B1 SA
    go_wp2_with fail
    refine (order_any _ L _ (by omega) (Row21.of_own rfl R1.out)).mono ?_
    generalize ordI L = O at hol HPERM E1 HOL2
    rintro e W2 ⟨v2, rfl, r2, B2⟩
    have SC := hid (U.SrcInts.below B2 (Nat.le_refl _) SB.out)
    have HB2 := hid (HB1.out.trans (B2.mono HB1.out.size))
    obtain ⟨a2, c2, rfl⟩ := own_sh' r2
    have R2 := hid r2
    rw [hol] at R2
    clear r2 B2 SB HB1 R1
    obtain ⟨n, hn⟩ : ∃ n, L.length = n := ⟨_, rfl⟩
    rw [hol]
    rw [hn] at hol R2 h1 ⊢
    have HN := hid hn
    have HOL := hid hol
    have hneq : ((n : Int) != (n : Int)) = false := by simp
    clear hn hol
    go_wp2_with fail
    refine (show Calls Try.prog 8 _ _ _ by rw [← HN.out]; exact copied_any _ L _ (by have := HN.out; omega) SC.out).mono ?_
    rintro e W3 ⟨v3, rfl, r3, B3⟩
    have HB3 := hid (HB2.out.trans (B3.mono HB2.out.size))
    have R2' := hid (ownsRow_below R2.out B3 (Nat.le_refl _))
    have LF := hid (LeftAt.of_own rfl r3)
    obtain ⟨a3, c3, rfl⟩ := own_sh' r3
    clear r3 B3 SC HB2 R2
    go_wp2_with fail
    go_loopw [4, 5, 6, 7] (fun v4 v5 v6 v7 wr => ∃ (i : Nat) (Z : List Int), v5 = .int .i64 i ∧ i ≤ n ∧ LeftAt wr v4 Z ∧ Hid (Z.Perm (O.drop i)) ∧ Below W3.heap.size W3 wr) (fun _ v5 _ _ _ => n - (intOf v5).toNat)
    case atStart => exact ⟨0, L, rfl, Nat.zero_le _, LF.out, HPERM.out.symm, Below.refl _ _⟩
    case round =>
      obtain ⟨i, Z, rfl, hin, hLF, HZ, hB⟩ := hrel
      obtain ⟨W4, rfl⟩ : ∃ W4, W4 = wr := ⟨_, rfl⟩
      by_cases hlt : i < n
      · have hltz : (i : Int) < (n : Int) := by omega
        have hiO : i < O.length := by have := HOL.out; omega
        obtain ⟨x, hx⟩ : ∃ x, O[i] = x := ⟨_, rfl⟩
        have hdr : O.drop i = x :: O.drop (i + 1) := by rw [List.drop_eq_getElem_cons hiO, hx]
        rw [hdr] at HZ
        have hZl : Z.length = n - i := by
          have := HZ.out.length_eq
          have := HOL.out
          simp at *; omega
        have hxZ : x ∈ Z := HZ.out.mem_iff.2 (by simp)
        obtain ⟨m, hm⟩ : ∃ m, Z.length = m := ⟨_, rfl⟩
        have hmp : 0 < m := by omega
        have hm3 : m ≤ 300 := by omega
        obtain ⟨za, zc, rfl, hzc, hzm, hzf⟩ := id hLF
        obtain ⟨zb, rfl, hzb, hzcell⟩ := hzf (by omega)
        rw [hm] at hzc hLF hzcell
        rw [hm]
        obtain ⟨go, hgo, hgolt, hocell⟩ : ∃ go, a2 = some ⟨go, 0, none⟩ ∧ go < W4.heap.size ∧ W4.cell? ⟨go, i, none⟩ = some (.int .i32 x) := by
          have hr := ownsRow_below R2'.out hB (Nat.le_refl _)
          obtain ⟨b, e, hb, hc⟩ := (Row21.of_own (by have := HOL.out; omega) hr).cell (by have := HOL.out; omega) (by omega)
          refine ⟨b, e, hb, ?_⟩
          rw [hc i hiO, List.getElem?_eq_getElem hiO, hx]; rfl
        subst hgo
        have HM := hid hm
        have HLF := hid hLF
        have HBr := hid hB
        have HXZ := hid hxZ
        have HC := hid hzcell
        clear hm hLF hB hxZ hzcell hzf hdr hx hZl
        go_wp2_with fail
        go_loopw [6, 7] (fun v6 v7 wr' => ∃ (k : Nat) (f : Int), v7 = .int .i64 k ∧ v6 = .int .i64 f ∧ k ≤ m ∧ Below W4.heap.size W4 wr' ∧ ((f = -1 ∧ Hid (∀ j, j < k → Z[j]?.getD 0 ≠ x)) ∨ (0 ≤ f ∧ f < m ∧ Hid (Z[f.toNat]?.getD 0 = x)))) (fun v6 v7 _ => m - (intOf v7).toNat)
        case atStart => exact ⟨0, -1, rfl, rfl, Nat.zero_le _, Below.refl _ _, .inl ⟨rfl, fun j hj => by omega⟩⟩
        case round =>
          obtain ⟨k, f, rfl, rfl, hkm, hBk, hcase⟩ := hrel
          rcases hcase with ⟨rfl, HNO⟩ | ⟨hf0, hfm, hfx⟩
          · by_cases hkl : k < m
            · have hkz : (k : Int) < (m : Int) := by omega
              have hm1 : (-1 : Int) < 0 := by omega
              have d1 : wr.cell? ⟨zb, k, none⟩ = some (.int .i32 (Z[k]?.getD 0)) := (hBk.cell (p := ⟨zb, k, none⟩) hzb).trans (HC.out k hkl)
              have d2 : wr.cell? ⟨go, i, none⟩ = some (.int .i32 x) := (hBk.cell (p := ⟨go, i, none⟩) hgolt).trans hocell
              by_cases hyx : Z[k]?.getD 0 = x
              · have HY := hid hyx
                rw [hyx] at d1
                clear hyx
                go_wp2_with fail
                go_quiet (fail)
                go_wp2
                go_roundw
                case rel => exact ⟨k + 1, (k : Int), by go_num, rfl, by omega, D.below_drewN hBk _, .inr ⟨by omega, by omega, by show _ = _; rw [Int.toNat_natCast]; exact HY.out⟩⟩
                case measure => simp [intOf]; omega
              · have HY := hid hyx
                generalize Z[k]?.getD 0 = y at d1 hyx
                have hyb : (y == x) = false := by simpa using hyx
                clear hyx
                go_wp2_with fail
                go_quiet (fail)
                go_wp2
                go_roundw
                case rel => exact ⟨k + 1, -1, by go_num, rfl, by omega, D.below_drewN hBk _, .inl ⟨rfl, fun j hj => by
                  by_cases hjk : j = k
                  · subst hjk; exact HY.out
                  · exact HNO.out j (by omega)⟩⟩
                case measure => simp [intOf]; omega
            · exfalso
              obtain ⟨j, hj, e⟩ := List.mem_iff_getElem.1 HXZ.out
              have := HM.out
              exact HNO.out j (by omega) (by rw [List.getElem?_eq_getElem hj, e]; rfl)
          · have SPLIT : True := trivial
            obtain ⟨fn, rfl⟩ : ∃ fn : Nat, f = (fn : Int) := ⟨f.toNat, by omega⟩
            have hfn : fn < m := by omega
            have hfneg : ¬ ((fn : Int) < 0) := by omega
            have hwp : IntKind.i64.wrap ((fn : Int) + 1) = (fn : Int) + 1 := by rw [IntKind.wrap_i64]; omega
            have hfd : decide ((fn : Int) < 0) = false := by simp
            have HX2 : Hid (Z[fn]?.getD 0 = x) := by have := hfx.out; rwa [Int.toNat_natCast] at this
            obtain ⟨vl, vr, v5, w5, hs1, hs2, hap, hl5, hb5⟩ := without_any (HLF.out.below hBk.drew) HM.out.symm hfn (by omega)
            have HP5 : Hid ((Z.take fn ++ Z.drop (fn + 1)).Perm (O.drop (i + 1))) := perm_out HZ.out (by have := HM.out; omega) HX2.out
            have HB5 : Hid (Below W3.heap.size W3 w5) := HBr.out.trans ((hBk.drew.trans (hb5.mono hBk.size)).mono HBr.out.size)
            have HL5 := hid hl5
            have HAP := hid hap
            clear hl5 hb5 HX2 hfx hap
            by_cases hkl : k < m
            · have hkz : (k : Int) < (m : Int) := by omega
              have hkd : decide ((k : Int) < (m : Int)) = true := decide_eq_true hkz
              go_wp2_with fail
              go_region_law (refine step_append_run rfl (.tmp 53) (.tmp 57) 22 rfl vl vr v5 w5 (by simp [Act.eval, Act.put]) (by simp [Act.eval, Act.put]) HAP.out ?_)
              go_wp2
              go_roundw
              case rel => exact ⟨i + 1, _, by go_num, by omega, HL5.out, HP5, HB5.out⟩
              case measure => simp [intOf]; omega
            · have hkz : ¬ (k : Int) < (m : Int) := by omega
              have hkd : decide ((k : Int) < (m : Int)) = false := decide_eq_false hkz
              go_wp2_with fail
              go_region_law (refine step_append_run rfl (.tmp 53) (.tmp 57) 22 rfl vl vr v5 w5 (by simp [Act.eval, Act.put]) (by simp [Act.eval, Act.put]) HAP.out ?_)
              go_wp2
              go_roundw
              case rel => exact ⟨i + 1, _, by go_num, by omega, HL5.out, HP5, HB5.out⟩
              case measure => simp [intOf]; omega
      · have hltz : ¬ (i : Int) < (n : Int) := by omega
        have R2w := hid (ownsRow_below R2'.out hB (Nat.le_refl _))
        have HBw := hid (HB3.out.trans (hB.mono HB3.out.size))
        have R2o : Hid (W4.ownsRow W1.heap.size 21 1 (.slice a2 n c2) O.length (O.map (Value.int .i32))) := by show World.ownsRow _ _ _ _ _ _ _; rw [HOL.out]; exact R2w.out
        clear hLF hB LF R2' R2w
        go_wp2_with fail
        refine (show Calls Try.prog 8 _ _ _ from copied_any _ O _ (by have := HOL.out; omega) (U.SrcInts.own rfl R2o.out)).mono ?_
        rintro e W5 ⟨v5, rfl, r5, B5⟩
        obtain ⟨a5, c5, rfl⟩ := own_sh' r5
        have R5 := hid r5
        have HB5 := hid (HBw.out.trans (B5.mono HBw.out.size))
        have R2p := hid (ownsRow_below R2o.out B5 (Nat.le_refl _))
        clear r5 B5 R2o HBw
        go_wp2_with fail
        refine (order_any _ O _ (by have := HOL.out; omega) (Row21.of_own rfl R5.out)).mono ?_
        rintro e W6 ⟨v6, rfl, r6, B6⟩
        obtain ⟨a6, c6, rfl⟩ := own_sh' r6
        have R6 := hid r6
        have HB6 := hid (HB5.out.trans (B6.mono HB5.out.size))
        have R2q := hid (ownsRow_below R2p.out B6 (Nat.le_refl _))
        clear r6 B6 R2p HB5 R5
        go_wp2_with fail
        refine (same_any _ (.slice a2 n c2) (ordI O) O _ (by have := HOL.out; have := HOL2.out; omega) (U.IntsAt.own rfl R6.out) (U.IntsAt.own rfl R2q.out)).mono ?_
        rw [E1.out]
        rintro e W7 ⟨rfl, B7⟩
        have HB7 := hid (HB6.out.trans (B7.mono HB6.out.size))
        clear B7 HB6 R6 R2q
        go_wp2_with fail
        refine (works_any _).mono ?_
        rintro e W8 ⟨rfl, B8⟩
        go_wp2
        go_ret
        exact ⟨by first | rfl | simp, HB7.out.trans (B8.mono HB7.out.size)⟩
end Go.Proofs.Ytcgfbejcehiolaa
