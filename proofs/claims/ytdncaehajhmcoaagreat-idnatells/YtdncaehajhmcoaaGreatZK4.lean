/- Texts of one layer, one behind the other: KB KH. -/
import Derived.Test.YtdncaehajhmcoaaGreatZK1
import Derived.Test.YtdncaehajhmcoaaGreatZJ3
import Derived.Test.YtdncaehajhmcoaaGreatZK3
import Derived.Test.YtdncaehajhmcoaaGreatZL2
/- idna.Map. -/
namespace Go.Proofs.YtdncaehajhmcoaaGreat.I
open Go.RowKit
set_option linter.unusedVariables false

set_option maxRecDepth 100000 in
set_option maxHeartbeats 8000000 in
theorem map_any (s : ByteArray) (w : World) (hs : s.size ≤ 4096) :
    Calls Tryz.prog 18 #[.string s] w fun e W' => N.Gives (Mp (U.dec (U.bn s))) w e W' := by
  have hdl := U.dec_len (U.bn s).length (U.bn s) (Nat.le_refl _) (U.bn_bytes s)
  have hml := mpl_len (U.bn s) (U.bn_bytes s)
  rw [U.bn_length] at hdl hml
  have HDEC := hid (U.decode_any s (by omega) w)
  have HMP : Hid (Mp (U.dec (U.bn s)) = N.nfcI ((U.dec (U.bn s)).flatMap mpx)) := rfl
  obtain ⟨l, hl⟩ : ∃ l, U.dec (U.bn s) = l := ⟨_, rfl⟩
  rw [hl] at HDEC HMP hdl hml ⊢
  obtain ⟨M, hM⟩ : ∃ M, Mp l = M := ⟨_, rfl⟩
  rw [hM] at HMP ⊢
  obtain ⟨n, hn⟩ : ∃ n, l.length = n := ⟨_, rfl⟩
  have HN := hid hn
  have HML := hid hml
  rw [hn] at HDEC hdl
  clear hl hM hn hml
  go_enter Tryz.func18, Tryz.ntmps18
  go_wp2_with fail
  refine HDEC.out.mono ?_
  rintro e w1 ⟨v1, rfl, r1, B1⟩
  obtain ⟨a1, c1, rfl⟩ := own_sh21 r1
  have HI := hid (U.IntsAt.own HN.out.symm r1)
  obtain ⟨a, c, he, hf⟩ := L.ints_form HI.out
  rw [HN.out] at he hf
  cases he
  have HF := hid hf
  have HB1 := hid B1
  clear r1 B1 HDEC hf
  go_wp2_with fail
  go_loopw [3, 9] (fun v4 v5 wr => ∃ (k m c : Nat) (a : Option Addr), k ≤ n ∧ m ≤ 8 * k ∧ v4 = .slice a m c ∧ v5 = .int .i64 k ∧ Hid (m = ((l.take k).flatMap mpx).length) ∧ Hid (wr.ownsRow w1.heap.size 21 1 (.slice a m c) m (((l.take k).flatMap mpx).map (Value.int .i32))) ∧ Hid (Below w1.heap.size w1 wr)) (fun _ v5 _ => n - (intOf v5).toNat)
  case atStart => exact ⟨0, 0, 0, none, Nat.zero_le _, Nat.le_refl _, rfl, rfl, rfl, World.ownsRow_nil _ _ _ _, Below.refl _ _⟩
  case round =>
    obtain ⟨k, m, c, a, hk, hmk, rfl, rfl, HM, HR, HB⟩ := hrel
    by_cases hlt : k < n
    · obtain ⟨b, off, rfl, hck⟩ := L.cell_at HF.out HB.out k hlt
      have HT := hid (mpx_step l k (by rw [HN.out]; exact hlt))
      have hml := mpx_len (l[k]?.getD 0)
      have HST := hid (fun W => D.status_any (l[k]?.getD 0) W)
      have HRM := hid (fun W => D.map_any (l[k]?.getD 0) W)
      have HMX : Hid (mpx (l[k]?.getD 0) = if (D.fnd (l[k]?.getD 0)).2.2.1 = 0 then [l[k]?.getD 0] else D.mp (l[k]?.getD 0)) := rfl
      obtain ⟨y2, h2⟩ : ∃ y, (D.fnd (l[k]?.getD 0)).2.2.1 = y := ⟨_, rfl⟩
      rw [h2] at HMX HST
      obtain ⟨Z, hZ⟩ : ∃ Z, mpx (l[k]?.getD 0) = Z := ⟨_, rfl⟩
      rw [hZ] at HT HMX hml
      obtain ⟨x, hx⟩ : ∃ x, l[k]?.getD 0 = x := ⟨_, rfl⟩
      rw [hx] at hck HRM HMX HST
      obtain ⟨Y, hY⟩ : ∃ Y, (l.take k).flatMap mpx = Y := ⟨_, rfl⟩
      rw [hY] at HT HM HR
      clear h2 hx hZ hY
      have z1 := HB.out.size
      by_cases h0 : y2 = 0
      · subst h0
        have HZ : Hid (Z = [x]) := by show _ = _; rw [HMX.out, if_pos rfl]
        clear HMX
        go_wp2_with (first
          | (at_builtin; refine U.wpList_append_ints rfl _ _ rfl w1.heap.size _ m Y rfl (R2.out.alloc _) _ [x] rfl (.inr ⟨⟨w2.heap.size, 0, none⟩, 1, rfl, fun j hj => by (have hj0 : j = 0 := by (simp only [List.length_cons, List.length_nil] at hj; omega)); subst hj0; rw [U.addr_add0]; exact (Boxed.new w2 21 (.int .i32 x)).cell⟩) (by simp only [List.length_cons, List.length_nil]; omega) (by simp; omega) ?_; intro v3 w3 r3 g3; simp only [List.length_cons, List.length_nil, Nat.zero_add] at r3; obtain ⟨a3, c3, rfl⟩ := own_sh21 r3)
          | (go_at_call 44; refine (HST.out _).mono ?_; rintro e w2 ⟨rfl, B2⟩; have R2 := hid (U.ownsRow_below HR.out B2 (Nat.le_refl _)); have HB2 := hid (HB.out.trans (B2.mono HB.out.size)); have z2 := HB2.out.size; clear B2))
        go_roundw
        case rel =>
          refine ⟨k + 1, m + 1, c3, a3, by omega, by omega, rfl, by go_num, by show _ = _; rw [HT.out, HZ.out, List.length_append, ← HM.out]; rfl, ?_, U.below_grow (w1 := w2.alloc (.cells #[.int .i32 x] 21)) (HB2.out.alloc HB2.out.size _) (Nat.le_trans HB2.out.size (by simp)) (R2.out.alloc _) g3⟩
          show World.ownsRow _ _ _ _ _ _ _
          rw [HT.out, HZ.out]; exact r3
        case measure => simp [intOf]; omega
      · have h0b : (y2 == 0) = false := by simpa using h0
        have hZ : Z = D.mp x := by rw [HMX.out, if_neg h0]
        rw [← hZ] at HRM
        obtain ⟨q, hq⟩ : ∃ q, Z.length = q := ⟨_, rfl⟩
        have HQ := hid hq
        rw [hq] at hml
        clear HMX hZ hq
        go_wp2_with (first
          | (at_builtin; refine U.wpList_append_ints rfl _ _ rfl w1.heap.size _ m Y rfl R3.out _ Z rfl S3.out (by have := HQ.out; omega) HB3.out.size ?_; intro v4 w4 r4 g4; rw [HQ.out] at r4; obtain ⟨a4, c4, rfl⟩ := own_sh21 r4)
          | (go_at_call 45; refine (HRM.out _).mono ?_; rintro e w3 ⟨⟨v3, rfl, hI3⟩, B3⟩; have R3 := hid (U.ownsRow_below R2.out B3 (Nat.le_refl _)); have HB3 := hid (HB2.out.trans (B3.mono HB2.out.size)); have S3 := hid (ans_src hI3); obtain ⟨a3, c3, hv3, _, _⟩ := id hI3; rw [HQ.out] at hv3; subst hv3; clear hI3 B3)
          | (go_at_call 44; refine (HST.out _).mono ?_; rintro e w2 ⟨rfl, B2⟩; have R2 := hid (U.ownsRow_below HR.out B2 (Nat.le_refl _)); have HB2 := hid (HB.out.trans (B2.mono HB.out.size)); have z2 := HB2.out.size; clear B2))
        go_roundw
        case rel =>
          refine ⟨k + 1, m + q, c4, a4, by omega, by omega, rfl, by go_num, by show _ = _; rw [HT.out, List.length_append, ← HM.out, HQ.out], ?_, U.below_grow HB3.out HB3.out.size R3.out g4⟩
          show World.ownsRow _ _ _ _ _ _ _
          rw [HT.out]; exact r4
        case measure => simp [intOf]; omega
    · have hkk : l.take k = l := List.take_of_length_le (by rw [HN.out]; omega)
      rw [hkk] at HM HR
      have hl8 := HML.out
      have HC := hid (N.nfc_any _ (l.flatMap mpx) wr (by omega) (N.Row21.of_own HM.out HR.out))
      clear hkk
      go_wp2_with fail
      refine HC.out.mono ?_
      rintro e w2 ⟨v2, rfl, r2, B2⟩
      rw [← HMP.out] at r2
      obtain ⟨a2, c2, rfl⟩ := own_sh21 r2
      have R2 := hid r2
      have BB := hid (HB1.out.trans (((HB.out.trans (B2.mono HB.out.size))).mono HB1.out.size))
      have z1 := HB1.out.size
      have z2 := HB.out.size
      clear r2 B2
      go_wp2
      go_ret
      exact ⟨_, rfl, N.own_base R2.out (by omega), BB.out⟩
end Go.Proofs.YtdncaehajhmcoaaGreat.I
/- A name processed: its boxes; addBidi. -/
namespace Go.Proofs.YtdncaehajhmcoaaGreat.I
open Go.RowKit Go.Shelf
set_option linter.unusedVariables false

theorem boxed_set {W : World} {B B' : Nat} {t t' : TypeId} {v x : Value} (h : Boxed W B t v) (h' : Boxed W B' t' x) (ht : t ≠ t') (u : Value) : Boxed (W.setCell ⟨B', 0, none⟩ u) B t v :=
  h.other (fun e => by subst e; have h1 : W.heap[B]? = _ := h; have h2 : W.heap[B]? = _ := h'; rw [h1] at h2; cases h2; exact ht rfl) u
/-- The boxes of what is gathered beside the labels. -/
structure Pf (w W : World) (B0 Bh Bf Br : Nat) (hy rt : Bool) (vf : Value) (fs : List Int) : Prop where
  bh : Boxed W Bh 4 (.bool hy)
  bf : Boxed W Bf 29 vf
  br : Boxed W Br 4 (.bool rt)
  flt : W.ownsRow B0 33 1 vf fs.length (fs.map (Value.int .u16))
  n1 : Bh ≠ Br
  n2 : w.heap.size ≤ Bf
  n3 : w.heap.size ≤ Br
theorem Pf.below {w W W' : World} {B0 Bh Bf Br : Nat} {hy rt : Bool} {vf : Value} {fs : List Int} (h : Pf w W B0 Bh Bf Br hy rt vf fs) (hb : Below W.heap.size W W') : Pf w W' B0 Bh Bf Br hy rt vf fs :=
  ⟨(hb.block _ h.bh.lt).trans h.bh, (hb.block _ h.bf.lt).trans h.bf, (hb.block _ h.br.lt).trans h.br, U.ownsRow_below h.flt hb (Nat.le_refl _), h.n1, h.n2, h.n3⟩
theorem Pf.from_other {w W W' : World} {B0 Bh Bf Br : Nat} {hy rt : Bool} {vf : Value} {fs : List Int} {row : Option Nat} (h : Pf w W B0 Bh Bf Br hy rt vf fs) (hg : W.grownBy W' row) (hr : ∀ r, row = some r → ∃ o : Obj, W.heap[r]? = some o ∧ o.isCells = false) : Pf w W' B0 Bh Bf Br hy rt vf fs :=
  ⟨boxed_other h.bh hg hr, boxed_other h.bf hg hr, boxed_other h.br hg hr, own_other h.flt hg hr, h.n1, h.n2, h.n3⟩
/-- A row of labels is added to, and its box written. -/
theorem Pf.pushO {w W w1 : World} {B0 Bh Bf Br Bo m : Nat} {hy rt : Bool} {vf vo : Value} {fs : List Int} {vs : List Value} {u : Value} (h : Pf w W B0 Bh Bf Br hy rt vf fs) (ho : W.ownsRow B0 34 1 vo m vs)
    (hg : (W.alloc (.cells #[u] 34)).grownBy w1 vo.ownBlock) (hbo : Boxed w1 Bo 28 vo) (x : Value) : Pf w (w1.setCell ⟨Bo, 0, none⟩ x) B0 Bh Bf Br hy rt vf fs := by
  have ho' := ho.alloc (.cells #[u] 34)
  have k : ∀ {B : Nat} {t : TypeId} {v : Value}, Boxed W B t v → t ≠ 34 → Boxed w1 B t v := fun hb ht => (hb.alloc _).kept hg ((hb.alloc _).not_row ht ho')
  have hf := own_kept (h.flt.alloc (.cells #[u] 34)) ho' (by decide) hg
  exact ⟨boxed_set (k h.bh (by decide)) hbo (by decide) _, boxed_set (k h.bf (by decide)) hbo (by decide) _, boxed_set (k h.br (by decide)) hbo (by decide) _, own_set hf hbo (by decide) _, h.n1, h.n2, h.n3⟩
/-- A fault more. -/
theorem pushF {w W w1 : World} {B0 Bl Bo Bh Bf Br : Nat} {v vo vf vf' : Value} {l : List Int} {vs : List Value} {ls : List (List Int)} {hy rt : Bool} {fs : List Int} {f : Int} (hs : So w W B0 Bl Bo v l vo vs ls) (h : Pf w W B0 Bh Bf Br hy rt vf fs)
    (hown : w1.ownsRow B0 33 1 vf' (fs.length + 1) (fs.map (Value.int .u16) ++ [.int .u16 f])) (hg : (W.alloc (.cells #[.int .u16 f] 33)).grownBy w1 vf.ownBlock) :
    Boxed w1 Bf 29 vf ∧ So w (w1.setCell ⟨Bf, 0, none⟩ vf') B0 Bl Bo v l vo vs ls ∧ Pf w (w1.setCell ⟨Bf, 0, none⟩ vf') B0 Bh Bf Br hy rt vf' (fs ++ [f]) := by
  have ba := below_alloc W (.cells #[.int .u16 f] 33)
  have ho := h.flt.alloc (.cells #[.int .u16 f] 33)
  have k : ∀ {B : Nat} {t : TypeId} {v : Value}, Boxed W B t v → t ≠ 33 → Boxed w1 B t v := fun hb ht => (hb.alloc _).kept hg ((hb.alloc _).not_row ht ho)
  have kbf := k h.bf (by decide)
  have hbe : Below w.heap.size w w1 := (hs.be.alloc hs.be.size _).grown hg (Nat.le_trans hs.be.size (by simp)) (fun k e => Nat.le_trans hs.b3 (ho.lt k e).1)
  have hels := (hs.els.below ba).kept ho (by decide) hg
  have hel := (hs.bx.el.below ba).kept ho (by decide) hg
  have hout := own_kept (hs.out.alloc (.cells #[.int .u16 f] 33)) ho (by decide) hg
  refine ⟨kbf, ⟨⟨boxed_set (k hs.bx.box (by decide)) kbf (by decide) _, hel.set kbf (by decide) _⟩, boxed_set (k hs.bo (by decide)) kbf (by decide) _, own_set hout kbf (by decide) _, hels.set kbf (by decide) _, hbe.setCell (p := ⟨Bf, 0, none⟩) h.n2 _, hs.b1, hs.b2, hs.b3, ?_⟩,
    ⟨boxed_set (k h.bh (by decide)) kbf (by decide) _, kbf.set _, boxed_set (k h.br (by decide)) kbf (by decide) _, ?_, h.n1, h.n2, h.n3⟩⟩
  · have h1 := hg.size
    have h2 := hs.b4
    simp at h1 ⊢
    omega
  · rw [List.length_append, List.map_append]
    exact own_set hown kbf (by decide) _
/-- Whether one goes right is written down. -/
theorem setR {w W : World} {B0 Bl Bo Bh Bf Br : Nat} {v vo vf : Value} {l : List Int} {vs : List Value} {ls : List (List Int)} {hy rt : Bool} {fs : List Int} (hs : So w W B0 Bl Bo v l vo vs ls) (h : Pf w W B0 Bh Bf Br hy rt vf fs) (b : Bool) :
    So w (W.setCell ⟨Br, 0, none⟩ (.bool b)) B0 Bl Bo v l vo vs ls ∧ Pf w (W.setCell ⟨Br, 0, none⟩ (.bool b)) B0 Bh Bf Br hy b vf fs :=
  ⟨⟨⟨boxed_set hs.bx.box h.br (by decide) _, hs.bx.el.set h.br (by decide) _⟩, boxed_set hs.bo h.br (by decide) _, own_set hs.out h.br (by decide) _, hs.els.set h.br (by decide) _, hs.be.setCell (p := ⟨Br, 0, none⟩) h.n3 _, hs.b1, hs.b2, hs.b3, by have := hs.b4; simp; omega⟩,
    ⟨h.bh.other h.n1 _, boxed_set h.bf h.br (by decide) _, h.br.set _, own_set h.flt h.br (by decide) _, h.n1, h.n2, h.n3⟩⟩

/-! ### addBidi -/
/-- Labels, and what is wrong with each. -/
structure Qr (B0 : Nat) (W : World) (vo vf : Value) (m : Nat) (vs : List Value) (ys : List (List Int × Int)) : Prop where
  out : W.ownsRow B0 34 1 vo m vs
  els : Els W vs (ys.map (·.1))
  flt : W.ownsRow B0 33 1 vf m (ys.map fun y => Value.int .u16 y.2)
  len : m = ys.length
theorem Qr.below {B0 : Nat} {W W' : World} {vo vf : Value} {m : Nat} {vs : List Value} {ys : List (List Int × Int)} (h : Qr B0 W vo vf m vs ys) (hb : Below W.heap.size W W') : Qr B0 W' vo vf m vs ys :=
  ⟨U.ownsRow_below h.out hb (Nat.le_refl _), h.els.below hb, U.ownsRow_below h.flt hb (Nat.le_refl _), h.len⟩
theorem or256 : ∀ x : Fin 256, bits .or .u16 (x.val : Int) 256 = (x.val : Int) + 256 := by decide +kernel
theorem or_256 (x : Int) (h : 0 ≤ x ∧ x ≤ 255 ∨ x = 512) : bits .or .u16 x 256 = x + 256 := by
  rcases h with h | rfl
  · obtain ⟨k, rfl⟩ : ∃ k : Nat, x = k := ⟨x.toNat, by omega⟩
    exact or256 ⟨k, by omega⟩
  · decide +kernel
theorem one_f (l : List Int) (hy : Bool) : 0 ≤ (one l hy).2 ∧ (one l hy).2 ≤ 255 ∨ (one l hy).2 = 512 := by
  have h := flt_le l hy
  have h0 := flt_nonneg l hy
  unfold one
  split
  · exact .inl ⟨h0, h⟩
  · split
    · exact .inr rfl
    · split
      · exact .inr rfl
      · rename_i m _
        split
        · exact .inr rfl
        · exact .inl ⟨flt_nonneg m hy, flt_le m hy⟩
set_option maxRecDepth 100000 in
set_option maxHeartbeats 8000000 in
theorem addBidi_any (B0 : Nat) (vo vf : Value) (m : Nat) (vs : List Value) (ys : List (List Int × Int)) (w : World) (hm : m ≤ 100000) (hB : B0 ≤ w.heap.size) (hf : ∀ y ∈ ys, (0 ≤ y.2 ∧ y.2 ≤ 255 ∨ y.2 = 512) ∧ y.1.length ≤ 10000) (hq : Qr B0 w vo vf m vs ys) :
    Calls Tryz.prog 36 #[vo, vf] w fun e W' => e = .returned (.tuple #[]) ∧ Qr B0 W' vo vf m vs (ys.map bid1) ∧ Below B0 w W' ∧ KeepsOthers w W' := by
  have HYB := hid hf
  have HYL := hid hq.len
  have HQ0 : Hid (Qr B0 w vo vf m vs (zsOf ys 0)) := hq
  have HEND : Hid (zsOf ys m = ys.map bid1) := by
    show _ = _
    unfold zsOf
    rw [List.take_of_length_le (by rw [hq.len]; exact Nat.le_refl _), List.drop_of_length_le (by rw [hq.len]; exact Nat.le_refl _), List.append_nil]
  obtain ⟨ao, co, rfl⟩ := own_sh22 hq.out
  obtain ⟨af, cf, rfl⟩ := own_sh16 hq.flt
  clear hq hf
  go_enter Tryz.func36, Tryz.ntmps36
  go_wp2_with fail
  go_loopw [8] (fun v8 wq => ∃ k2 : Nat, k2 ≤ m ∧ v8 = .int .i64 k2 ∧ Hid (Below B0 w wq) ∧ Hid (KeepsOthers w wq) ∧ Hid (Qr B0 wq (.slice ao m co) (.slice af m cf) m vs (zsOf ys k2))) (fun v8 _ => m - (intOf v8).toNat)
  case atStart => exact ⟨0, Nat.zero_le _, rfl, Below.refl _ _, KeepsOthers.refl _, HQ0⟩
  case round =>
    clear HQ0
    obtain ⟨k2, hk2, rfl, HB, HKO, HQ2⟩ := hrel
    by_cases hlt2 : k2 < m
    · have hky : k2 < ys.length := by rw [← HYL.out]; exact hlt2
      have hb := HYB.out ys[k2] (List.getElem_mem hky)
      obtain ⟨go, rfl, hco, -⟩ := row_cell HQ2.out.out k2 hlt2
      obtain ⟨gf, rfl, hcf, hff⟩ := row_cell HQ2.out.flt k2 hlt2
      have hel := HQ2.out.els.2 k2 (by rw [zs_fst, List.length_map]; exact hky)
      rw [zs_fst, List.getElem?_map, List.getElem?_eq_getElem hky] at hel
      replace hel : El wr (vs[k2]?.getD undef) ys[k2].1 := hel
      rw [List.getElem?_map, zs_get ys k2 hky] at hcf
      replace hcf : wr.cell? ⟨gf, k2, none⟩ = some (.int .u16 ys[k2].2) := hcf
      obtain ⟨ae, ce, hue⟩ := el_shape hel
      rw [hue] at hco hel
      have HBD := hid (L.bidi_any _ ys[k2].1 wr (by omega) hel.ints)
      have HZO := hid (zs_ok ys k2 hky)
      have HZB := hid (zs_bad ys k2 hky)
      have HOR := hid (or_256 ys[k2].2 hb.1)
      obtain ⟨bo, hbo⟩ : ∃ bo, L.bidiOk ys[k2].1 = bo := ⟨_, rfl⟩
      rw [hbo] at HBD HZO HZB
      obtain ⟨f2, hf2⟩ : ∃ f2, ys[k2].2 = f2 := ⟨_, rfl⟩
      rw [hf2] at HZB hcf hb HOR
      obtain ⟨p2, hp2⟩ : ∃ p2, ys[k2].1.length = p2 := ⟨_, rfl⟩
      rw [hp2] at hco HBD
      have hb0 : 0 ≤ f2 := by omega
      have hb1 : f2 ≤ 512 := by omega
      clear hel hue hbo hf2 hp2 hb
      have z1 := HB.out.size
      cases bo with
      | true =>
        have HZ := hid (HZO.out rfl)
        go_wp2_with (go_at_call 67; refine HBD.out.mono ?_; rintro e w5 ⟨rfl, B5⟩)
        go_roundw
        case rel => exact ⟨k2 + 1, by omega, by go_num, HB.out.trans (B5.mono (by omega)), HKO.out.trans (L.keeps_below B5), by show Qr _ _ _ _ _ _ _; rw [HZ.out]; exact HQ2.out.below B5⟩
        case measure => simp [intOf]; omega
      | false =>
        have HZ := hid (HZB.out rfl)
        go_upto_if 15 with (go_at_call 67; refine HBD.out.mono ?_; rintro e w5 ⟨rfl, B5⟩)
        have HQ5 := hid (HQ2.out.below B5)
        have HB5 := hid (HB.out.trans (B5.mono (by omega)))
        have hcf5 : w5.cell? ⟨gf, k2, none⟩ = some (.int .u16 f2) := (B5.cell (p := ⟨gf, k2, none⟩) (U.lt_of_cell hcf)).trans hcf
        obtain ⟨g', e', -, hff5⟩ := row_cell HQ5.out.flt k2 hlt2
        cases e'
        have hst := HQ5.out.flt.stored k2 (.int .u16 (f2 + 256))
        have HST := hid hst
        have hor := HOR.out
        have HKB := hid (HKO.out.trans (L.keeps_below B5))
        clear B5 hcf hff hco hst
        go_wp2
        go_roundw
        case rel =>
          refine ⟨k2 + 1, by omega, by go_num, HB5.out.setCell (p := ⟨gf, k2, none⟩) (by have := (HQ5.out.flt.lt gf rfl).1; exact this) _, HKB.out.trans (KeepsOthers.setCell _ _ _), ?_⟩
          show Qr _ _ _ _ _ _ _
          refine ⟨own_kept HQ5.out.out HQ5.out.flt (by decide) HST.out.2, ?_, by rw [HZ.out]; exact HST.out.1, by rw [zs_len]; exact HYL.out⟩
          rw [zs_fst, ← zs_fst ys k2]
          exact HQ5.out.els.kept HQ5.out.flt (by decide) HST.out.2
        case measure => simp [intOf]; omega
    · obtain rfl : k2 = m := by omega
      rw [HEND.out] at HQ2
      go_wp2
      go_end0
      exact ⟨rfl, HQ2.out, HB.out, HKO.out⟩
/-- The named results are written once more, and what the loop has laid is gone. -/
theorem fin_world {w W : World} {B0 Bo Bf D : Nat} {vo vf : Value} {m : Nat} {vs : List Value} {xs : List (List Int × Int)} (hq : Qr B0 W vo vf m vs xs) (hbo : Boxed W Bo 28 vo) (hbf : Boxed W Bf 29 vf) (hbe : Below w.heap.size w W)
    (h1 : w.heap.size ≤ Bo) (h2 : w.heap.size ≤ Bf) (h3 : w.heap.size ≤ B0) (hD : w.heap.size ≤ D) (hK : W.heap[D]? = some (.deferred (some []))) :
    ((W.setCell ⟨Bo, 0, none⟩ vo).setCell ⟨Bf, 0, none⟩ vf).heap[D]? = some (.deferred (some [])) ∧
    Boxed (((W.setCell ⟨Bo, 0, none⟩ vo).setCell ⟨Bf, 0, none⟩ vf).putObj D (.deferred none)) Bo 28 vo ∧ Boxed (((W.setCell ⟨Bo, 0, none⟩ vo).setCell ⟨Bf, 0, none⟩ vf).putObj D (.deferred none)) Bf 29 vf ∧
    Pr w (((W.setCell ⟨Bo, 0, none⟩ vo).setCell ⟨Bf, 0, none⟩ vf).putObj D (.deferred none)) vo vf m vs xs := by
  have k1 := (KeepsOthers.setCell W ⟨Bo, 0, none⟩ vo).same D _ hK rfl
  have k2 := (KeepsOthers.setCell (W.setCell ⟨Bo, 0, none⟩ vo) ⟨Bf, 0, none⟩ vf).same D _ k1 rfl
  have o1 := hbo.set vo
  have f1 := boxed_set hbf hbo (by decide) vo
  have o2 := boxed_set o1 f1 (by decide) vf
  have f2 := f1.set vf
  have e1 := own_set (own_set hq.out hbo (by decide) vo) f1 (by decide) vf
  have e2 := own_set (own_set hq.flt hbo (by decide) vo) f1 (by decide) vf
  have e3 := (hq.els.set hbo (by decide) vo).set f1 (by decide) vf
  have e4 : Below w.heap.size w ((W.setCell ⟨Bo, 0, none⟩ vo).setCell ⟨Bf, 0, none⟩ vf) := (hbe.setCell (p := ⟨Bo, 0, none⟩) h1 _).setCell (p := ⟨Bf, 0, none⟩) h2 _
  have hg := grownBy_putObj' ((W.setCell ⟨Bo, 0, none⟩ vo).setCell ⟨Bf, 0, none⟩ vf) D (.deferred none)
  have hr : ∀ r, some D = some r → ∃ o : Obj, ((W.setCell ⟨Bo, 0, none⟩ vo).setCell ⟨Bf, 0, none⟩ vf).heap[r]? = some o ∧ o.isCells = false := fun r e => by cases e; exact ⟨_, k2, rfl⟩
  exact ⟨k2, boxed_other o2 hg hr, boxed_other f2 hg hr, own_base' (own_other e1 hg hr) h3, e3.other hg hr, own_base' (own_other e2 hg hr) h3, e4.grown hg e4.size (fun k e => by cases e; exact hD), hq.len⟩
end Go.Proofs.YtdncaehajhmcoaaGreat.I
