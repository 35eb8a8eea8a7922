/- Texts of one layer, one behind the other: JA JB. -/
import Derived.Test.YtdncaehajhmcoaaGreatZJ2
import Derived.Test.YtdncaehajhmcoaaGreatZL3
import Derived.Test.YtdncaehajhmcoaaGreatZD6
import Derived.Test.YtdncaehajhmcoaaGreatZN11
import Derived.Test.YtdncaehajhmcoaaGreatZU5
import Derived.Test.YtdncaehajhmcoaaGreatZL5
import Derived.Test.YtdncaehajhmcoaaGreatZP9
/- The document's Plain, text and Map. -/
namespace Go.Proofs.YtdncaehajhmcoaaGreat.I
open Go.RowKit
set_option linter.unusedVariables false

theorem hid {p : Prop} (h : p) : Hid p := h
theorem plain_no {l : List Int} (i : Nat) (hi : i < l.length) (h : ¬ (0 ≤ l[i]?.getD 0 ∧ l[i]?.getD 0 < 128)) : plain l = false := by
  rw [Bool.eq_false_iff]
  intro hp
  exact h (plain_iff.1 hp _ (get_mem hi))
theorem plain_yes {l : List Int} (h : ∀ i, i < l.length → 0 ≤ l[i]?.getD 0 ∧ l[i]?.getD 0 < 128) : plain l = true :=
  plain_iff.2 fun c hc => by
    obtain ⟨i, hi, rfl⟩ := List.mem_iff_getElem.1 hc
    have := h i hi
    rwa [List.getElem?_eq_getElem hi] at this
set_option maxRecDepth 100000 in
set_option maxHeartbeats 4000000 in
theorem rplain_any (v : Value) (l : List Int) (w : World) (hlen : l.length ≤ 100000) (hv : U.IntsAt w v l) :
    Calls Tryz.prog 26 #[v] w fun e W' => e = .returned (.bool (plain l)) ∧ W' = w := by
  obtain ⟨a, c, rfl, hf⟩ := L.ints_form hv
  have HF := hid hf
  have HNO := hid (plain_no (l := l))
  have HYES := hid (plain_yes (l := l))
  obtain ⟨n, hn⟩ : ∃ n, l.length = n := ⟨_, rfl⟩
  rw [hn] at hlen HF HNO HYES ⊢
  obtain ⟨R, hR⟩ : ∃ R, plain l = R := ⟨_, rfl⟩
  rw [hR] at HNO HYES ⊢
  clear hv hf hn hR
  go_enter Tryz.func26, Tryz.ntmps26
  go_wp2_with fail
  go_loop [3] (fun v3 => ∃ k : Nat, k ≤ n ∧ v3 = .int .i64 k ∧ Hid (∀ j, j < k → 0 ≤ l[j]?.getD 0 ∧ l[j]?.getD 0 < 128)) (fun v3 => n - (intOf v3).toNat)
  case atStart => exact ⟨0, Nat.zero_le _, rfl, (fun j hj => by omega)⟩
  case round =>
    obtain ⟨k, hk, rfl, HA⟩ := hrel
    by_cases hlt : k < n
    · obtain ⟨b, off, rfl, hck⟩ := L.cell_at HF.out (Below.refl _ _) k hlt
      have HX := hid (HNO.out k hlt)
      have HS : Hid ((0 ≤ l[k]?.getD 0 ∧ l[k]?.getD 0 < 128) → ∀ j, j < k + 1 → 0 ≤ l[j]?.getD 0 ∧ l[j]?.getD 0 < 128) := fun h j hj => by
        by_cases e : j = k
        · rw [e]; exact h
        · exact HA.out j (by omega)
      obtain ⟨x, hx⟩ : ∃ x, l[k]?.getD 0 = x := ⟨_, rfl⟩
      rw [hx] at hck HX HS
      clear hx
      by_cases h1 : x < 0
      · have HR := hid (HX.out (by omega))
        go_wp2
        go_ret
        exact ⟨by rw [HR.out]; rfl, rfl⟩
      · by_cases h2 : 128 ≤ x
        · have HR := hid (HX.out (by omega))
          go_wp2
          go_ret
          exact ⟨by rw [HR.out]; rfl, rfl⟩
        · have HR := hid (HS.out (by omega))
          go_wp2
          exact ⟨⟨k + 1, by omega, by go_num, HR⟩, by simp [intOf]; omega⟩
    · have HR := hid (HYES.out (fun j hj => HA.out j (by omega)))
      go_wp2
      go_ret
      exact ⟨by rw [HR.out]; rfl, rfl⟩
theorem own_sh5 {base n : Nat} {v : Value} {X : List Value} {W : World} (h : W.ownsRow base 5 1 v n X) : ∃ a cap, v = .slice a n cap := by
  rcases h.2 with ⟨rfl, h0⟩ | ⟨g, cap, cur, rfl, _⟩
  · exact ⟨none, 0, by rw [h0]⟩
  · exact ⟨_, cap, rfl⟩
theorem own_sh21 {base n : Nat} {v : Value} {X : List Value} {W : World} (h : W.ownsRow base 21 1 v n X) : ∃ a cap, v = .slice a n cap := by
  rcases h.2 with ⟨rfl, h0⟩ | ⟨g, cap, cur, rfl, _⟩
  · exact ⟨none, 0, by rw [h0]⟩
  · exact ⟨_, cap, rfl⟩
/-- What Map has answered of one code point may be appended. -/
theorem ans_src {W : World} {v : Value} {zs : List Int} (h : D.IntsAt W v zs) : U.SrcInts W v zs := by
  obtain ⟨a, cap, rfl, ⟨h1, h2⟩, h3⟩ := h
  cases a with
  | none =>
    have h0 : zs.length = 0 := Nat.eq_zero_of_not_pos (fun hp => by obtain ⟨b, e, _⟩ := h3 hp; cases e)
    have e1 := h1 rfl
    exact .inl ⟨by rw [h0, e1], List.length_eq_zero_iff.1 h0⟩
  | some ad =>
    refine .inr ⟨ad, cap, rfl, fun j hj => ?_⟩
    obtain ⟨b, e, hg⟩ := h3 (by omega)
    cases e
    rw [U.addr_add0]
    simp [World.cell?, hg, List.getElem?_eq_getElem hj]
theorem mpx_step (l : List Int) (k : Nat) (hk : k < l.length) : (l.take (k + 1)).flatMap mpx = (l.take k).flatMap mpx ++ mpx (l[k]?.getD 0) := by
  rw [L.take_one l k hk, List.flatMap_append]; simp
theorem mpx_len (r : Int) : (mpx r).length ≤ 8 := by
  by_cases h : L.sts r = 0
  · unfold mpx; rw [if_pos h]; simp
  · unfold mpx D.mp
    rw [if_neg h]
    split
    · simp
    · split
      · unfold D.mpd
        split
        · simp
        · unfold D.inst
          cases h : D.instT.lookup r with
          | none => simp
          | some v =>
            have : ∀ p ∈ D.instT, p.2.length ≤ 8 := by decide
            exact this _ (D.lookup_mem h)
      · simp
theorem mpx_lens : ∀ l : List Int, (l.flatMap mpx).length ≤ 8 * l.length
  | [] => by simp
  | r :: l => by
    have h1 := mpx_len r
    have h2 := mpx_lens l
    rw [List.flatMap_cons, List.length_append, List.length_cons]; omega
set_option maxRecDepth 100000 in
set_option maxHeartbeats 8000000 in
theorem rMap_any (s : ByteArray) (w : World) (hs : s.size ≤ 1200) :
    Calls Tryz.prog 16 #[.string s] w fun e W' => N.Gives (Mp (U.dec (U.bn s))) w e W' := by
  have hdl := U.dec_len (U.bn s).length (U.bn s) (Nat.le_refl _) (U.bn_bytes s)
  rw [U.bn_length] at hdl
  have HDEC := hid (U.refDecode_any s (by omega) w)
  have HMP : Hid (Mp (U.dec (U.bn s)) = N.nfcI ((U.dec (U.bn s)).flatMap mpx)) := rfl
  obtain ⟨l, hl⟩ : ∃ l, U.dec (U.bn s) = l := ⟨_, rfl⟩
  rw [hl] at HDEC HMP hdl ⊢
  obtain ⟨M, hM⟩ : ∃ M, Mp l = M := ⟨_, rfl⟩
  rw [hM] at HMP ⊢
  obtain ⟨n, hn⟩ : ∃ n, l.length = n := ⟨_, rfl⟩
  have HN := hid hn
  rw [hn] at HDEC hdl
  clear hl hM hn
  go_enter Tryz.func16, Tryz.ntmps16
  go_wp2_with fail
  refine HDEC.out.mono ?_
  rintro e w1 ⟨v1, rfl, r1, B1⟩
  obtain ⟨a1, c1, rfl⟩ := own_sh21 r1
  have HI := hid (U.IntsAt.own HN.out.symm r1)
  obtain ⟨a, c, he, hf⟩ := L.ints_form HI.out
  rw [HN.out] at he hf
  cases he
  have HF := hid hf
  have HB1 := hid B1
  clear r1 B1 HDEC hf
  go_wp2_with fail
  go_loopw [4, 5] (fun v4 v5 wr => ∃ (k m c : Nat) (a : Option Addr), k ≤ n ∧ m ≤ 8 * k ∧ v4 = .slice a m c ∧ v5 = .int .i64 k ∧ Hid (m = ((l.take k).flatMap mpx).length) ∧ Hid (wr.ownsRow w1.heap.size 21 1 (.slice a m c) m (((l.take k).flatMap mpx).map (Value.int .i32))) ∧ Hid (Below w1.heap.size w1 wr)) (fun _ v5 _ => n - (intOf v5).toNat)
  case atStart => exact ⟨0, 0, 0, none, Nat.zero_le _, Nat.le_refl _, rfl, rfl, rfl, World.ownsRow_nil _ _ _ _, Below.refl _ _⟩
  case round =>
    obtain ⟨k, m, c, a, hk, hmk, rfl, rfl, HM, HR, HB⟩ := hrel
    by_cases hlt : k < n
    · obtain ⟨b, off, rfl, hck⟩ := L.cell_at HF.out HB.out k hlt
      have HT := hid (mpx_step l k (by rw [HN.out]; exact hlt))
      have hml := mpx_len (l[k]?.getD 0)
      obtain ⟨x0, x1, x3, x4, x5, x6, hfa⟩ := L.rfind_c (l[k]?.getD 0)
      have hfla := L.fld2 x0 x1 (L.sts (l[k]?.getD 0)) x3 x4 x5 x6 (L.bid (l[k]?.getD 0)) (L.cls (l[k]?.getD 0)) (L.joi (l[k]?.getD 0)) (L.mrk (l[k]?.getD 0))
      have HRM := hid (fun W => D.rmap_any (l[k]?.getD 0) W)
      have HMX : Hid (mpx (l[k]?.getD 0) = if L.sts (l[k]?.getD 0) = 0 then [l[k]?.getD 0] else D.mp (l[k]?.getD 0)) := rfl
      rw [D.rmp_eq] at HRM
      have hCK := fun W (h : Below w1.heap.size w1 W) => L.cell_at HF.out h k hlt
      obtain ⟨y2, h2⟩ : ∃ y, L.sts (l[k]?.getD 0) = y := ⟨_, rfl⟩
      obtain ⟨y7, h7⟩ : ∃ y, L.bid (l[k]?.getD 0) = y := ⟨_, rfl⟩
      obtain ⟨y8, h8⟩ : ∃ y, L.cls (l[k]?.getD 0) = y := ⟨_, rfl⟩
      obtain ⟨y9, h9⟩ : ∃ y, L.mrk (l[k]?.getD 0) = y := ⟨_, rfl⟩
      obtain ⟨y10, h10⟩ : ∃ y, L.joi (l[k]?.getD 0) = y := ⟨_, rfl⟩
      rw [h2, h7, h8, h9, h10] at hfa hfla
      rw [h2] at HMX
      obtain ⟨Z, hZ⟩ : ∃ Z, mpx (l[k]?.getD 0) = Z := ⟨_, rfl⟩
      rw [hZ] at HT HMX hml
      obtain ⟨x, hx⟩ : ∃ x, l[k]?.getD 0 = x := ⟨_, rfl⟩
      rw [hx] at hck hfa HRM HMX hCK
      obtain ⟨Y, hY⟩ : ∃ Y, (l.take k).flatMap mpx = Y := ⟨_, rfl⟩
      rw [hY] at HT HM HR
      have HFA := hid hfa
      have HCK := hid hCK
      clear hfa h2 h7 h8 h9 h10 hx hZ hY hCK
      have z1 := HB.out.size
      by_cases h0 : y2 = 0
      · subst h0
        have HZ : Hid (Z = [x]) := by show _ = _; rw [HMX.out, if_pos rfl]
        clear HMX
        go_upto_if 21 with (go_at_call 40; refine (HFA.out _).mono ?_; rintro e w2 ⟨rfl, B2⟩)
        have R2 := hid (U.ownsRow_below HR.out B2 (Nat.le_refl _))
        have HB2 := hid (HB.out.trans (B2.mono HB.out.size))
        obtain ⟨b', off', he', hck2⟩ := HCK.out w2 HB2.out
        cases he'
        have z2 := HB2.out.size
        clear B2 hck HB HR
        go_wp2_with (at_builtin; refine U.wpList_append_ints rfl _ _ rfl w1.heap.size _ m Y rfl (R2.out.alloc _) _ [x] rfl (.inr ⟨⟨w2.heap.size, 0, none⟩, 1, rfl, fun j hj => by (have hj0 : j = 0 := by (simp only [List.length_cons, List.length_nil] at hj; omega)); subst hj0; rw [U.addr_add0]; exact (Boxed.new w2 21 (.int .i32 x)).cell⟩) (by simp only [List.length_cons, List.length_nil]; omega) (by simp; omega) ?_; intro v3 w3 r3 g3; simp only [List.length_cons, List.length_nil, Nat.zero_add] at r3; obtain ⟨a3, c3, rfl⟩ := own_sh21 r3)
        go_roundw
        case rel =>
          refine ⟨k + 1, m + 1, c3, a3, by omega, by omega, rfl, by go_num, by show _ = _; rw [HT.out, HZ.out, List.length_append, ← HM.out]; rfl, ?_, U.below_grow (w1 := w2.alloc (.cells #[.int .i32 x] 21)) (HB2.out.alloc HB2.out.size _) (Nat.le_trans HB2.out.size (by simp)) (R2.out.alloc _) g3⟩
          show World.ownsRow _ _ _ _ _ _ _
          rw [HT.out, HZ.out]; exact r3
        case measure => simp [intOf]; omega
      · have h0b : (y2 == 0) = false := by simpa using h0
        have hZ : Z = D.mp x := by rw [HMX.out, if_neg h0]
        rw [← hZ] at HRM
        obtain ⟨q, hq⟩ : ∃ q, Z.length = q := ⟨_, rfl⟩
        have HQ := hid hq
        rw [hq] at hml
        clear HMX hZ hq
        go_upto_if 21 with (go_at_call 40; refine (HFA.out _).mono ?_; rintro e w2 ⟨rfl, B2⟩)
        have R2 := hid (U.ownsRow_below HR.out B2 (Nat.le_refl _))
        have HB2 := hid (HB.out.trans (B2.mono HB.out.size))
        obtain ⟨b', off', he', hck2⟩ := HCK.out w2 HB2.out
        cases he'
        have z2 := HB2.out.size
        clear B2 hck HB HR
        go_wp2_with (first
          | (at_builtin; refine U.wpList_append_ints rfl _ _ rfl w1.heap.size _ m Y rfl R3.out _ Z rfl S3.out (by have := HQ.out; omega) HB3.out.size ?_; intro v4 w4 r4 g4; rw [HQ.out] at r4; obtain ⟨a4, c4, rfl⟩ := own_sh21 r4)
          | (go_at_call 41; refine (HRM.out _).mono ?_; rintro e w3 ⟨⟨v3, rfl, hI3⟩, B3⟩; have R3 := hid (U.ownsRow_below R2.out B3 (Nat.le_refl _)); have HB3 := hid (HB2.out.trans (B3.mono HB2.out.size)); have S3 := hid (ans_src hI3); obtain ⟨a3, c3, hv3, _, _⟩ := id hI3; rw [HQ.out] at hv3; subst hv3; clear hI3 B3))
        go_roundw
        case rel =>
          refine ⟨k + 1, m + q, c4, a4, by omega, by omega, rfl, by go_num, by show _ = _; rw [HT.out, List.length_append, ← HM.out, HQ.out], ?_, U.below_grow HB3.out HB3.out.size R3.out g4⟩
          show World.ownsRow _ _ _ _ _ _ _
          rw [HT.out]; exact r4
        case measure => simp [intOf]; omega
    · have hkk : l.take k = l := List.take_of_length_le (by rw [HN.out]; omega)
      rw [hkk] at HM HR
      have hl8 := mpx_lens l
      rw [HN.out] at hl8
      have HC := hid (N.rnfc_any _ (l.flatMap mpx) wr (by omega) (U.IntsAt.own HM.out HR.out))
      clear hkk
      go_wp2_with fail
      refine HC.out.mono ?_
      rintro e w2 ⟨v2, rfl, r2, B2⟩
      rw [← HMP.out] at r2
      obtain ⟨a2, c2, rfl⟩ := own_sh21 r2
      have R2 := hid r2
      have BB := hid (HB1.out.trans (((HB.out.trans (B2.mono HB.out.size))).mono HB1.out.size))
      have z1 := HB1.out.size
      have z2 := HB.out.size
      clear r2 B2
      go_wp2
      go_ret
      exact ⟨_, rfl, N.own_base R2.out (by omega), BB.out⟩
end Go.Proofs.YtdncaehajhmcoaaGreat.I
/- The document's text and one. -/
namespace Go.Proofs.YtdncaehajhmcoaaGreat.I
open Go.RowKit
set_option linter.unusedVariables false

theorem infoU8 : (Tryz.prog.info? 5).map (fun i => (i.zero, i.size, i.bytes)) = some (some (.int .u8 0), 1, 1) := by kernel_rfl
set_option maxRecDepth 100000 in
set_option maxHeartbeats 4000000 in
theorem rtext_any (v : Value) (l : List Int) (w : World) (hlen : l.length ≤ 100000) (hp : ∀ c ∈ l, 0 ≤ c ∧ c < 128) (hv : U.IntsAt w v l) :
    Calls Tryz.prog 27 #[v] w fun e W' => (∃ t, e = .returned (.string t) ∧ U.bn t = l) ∧ Below w.heap.size w W' := by
  obtain ⟨i0, hi0, hz0, hz1, hz2⟩ := info_parts infoU8
  obtain ⟨a, c, rfl, hf⟩ := L.ints_form hv
  have HF := hid hf
  have HP := hid hp
  obtain ⟨n, hn⟩ : ∃ n, l.length = n := ⟨_, rfl⟩
  have HN := hid hn
  rw [hn] at hlen HF ⊢
  clear hv hf hn hp
  go_enter Tryz.func27, Tryz.ntmps27
  go_wp2_with fail
  go_loopw [3, 4] (fun v3 v4 wr => ∃ (k c : Nat) (a : Option Addr), k ≤ n ∧ v3 = .slice a k c ∧ v4 = .int .i64 k ∧ Hid (wr.ownsRow w.heap.size 5 1 (.slice a k c) k ((l.take k).map (Value.int .u8))) ∧ Hid (Below w.heap.size w wr)) (fun _ v4 _ => n - (intOf v4).toNat)
  case atStart => exact ⟨0, 0, none, Nat.zero_le _, rfl, rfl, World.ownsRow_nil _ _ _ _, Below.refl _ _⟩
  case round =>
    obtain ⟨k, c, a, hk, rfl, rfl, HR, HB⟩ := hrel
    by_cases hlt : k < n
    · obtain ⟨b, off, rfl, hck⟩ := L.cell_at HF.out HB.out k hlt
      have HT := hid (L.take_one l k (by rw [HN.out]; exact hlt))
      have hx1 := HP.out _ (get_mem (show k < l.length by rw [HN.out]; exact hlt))
      obtain ⟨x, hx⟩ : ∃ x, l[k]?.getD 0 = x := ⟨_, rfl⟩
      rw [hx] at hck HT hx1
      clear hx
      have z1 := HB.out.size
      obtain ⟨xa, xb⟩ := hx1
      go_wp2_with (at_builtin; refine wpList_append_own _ rfl _ _ 39 rfl w.heap.size 5 i0 (.int .u8 0) 1 1 Tryz.underlying39 hi0 hz0 hz1 hz2 rfl (by decide) _ _ _ rfl (HR.out.alloc _) ⟨wr.heap.size, 0, none⟩ 1 1 [.int .u8 x] rfl rfl (U.news_at _ _ _) (by simp [Value.oneCell']) (by unfold maxLen; omega) (by omega) (by simp; omega) ?_; intro v' w1 hown' hgrow _; obtain ⟨a1, c1, rfl⟩ := own_sh5 hown')
      go_roundw
      case rel =>
        refine ⟨k + 1, c1, a1, by omega, rfl, by go_num, ?_, U.below_grow (w1 := wr.alloc (.cells #[.int .u8 x] 5)) (HB.out.alloc HB.out.size _) (Nat.le_trans HB.out.size (by simp)) (HR.out.alloc _) hgrow⟩
        show World.ownsRow _ _ _ _ _ _ _
        rw [HT.out, List.map_append]; exact hown'
      case measure => simp [intOf]; omega
    · have hkk : l.take k = l := List.take_of_length_le (by rw [HN.out]; omega)
      rw [hkk] at HR
      obtain ⟨t, hcv, ht⟩ := U.conv_string wr w.heap.size _ k l (by rw [HN.out]; omega) (fun b hb => by have := HP.out b hb; omega) HR.out
      have HT := hid ht
      clear ht hkk
      go_wp2
      go_ret
      exact ⟨⟨t, rfl, HT.out⟩, HB.out⟩
/-- A slice that is a label: what it leads to, and that it is not longer than its room. -/
def El (W : World) (u : Value) (l : List Int) : Prop := N.Row21 W u l ∧ ∀ a n c, u = .slice a n c → n ≤ c ∧ (a = none → c = 0)
theorem El.below {W W' : World} {u : Value} {l : List Int} (h : El W u l) (hb : Below W.heap.size W W') : El W' u l := ⟨h.1.below hb, h.2⟩
theorem El.ints {W : World} {u : Value} {l : List Int} (h : El W u l) : U.IntsAt W u l := N.u_ints h.1
theorem El.own {W : World} {base n : Nat} {v : Value} {zs : List Int} (hn : n = zs.length) (h : W.ownsRow base 21 1 v n (zs.map (Value.int .i32))) : El W v zs := by
  refine ⟨N.Row21.of_own hn h, ?_⟩
  rcases h.2 with ⟨rfl, h0⟩ | ⟨g, cap, cur, rfl, _, _, hnc, _⟩
  · rintro a n c e; cases e; exact ⟨Nat.le_refl _, fun _ => rfl⟩
  · rintro a n c e; cases e; exact ⟨hnc, fun h => by cases h⟩
theorem sizeOfI (W : World) : (sizeOf (Tryz.prog.elem 34)).run Tryz.prog W = .ok 1 W := by kernel_rfl
/-- What stands from a place on. -/
theorem El.drop {W : World} {a : Option Addr} {n c : Nat} {l : List Int} (h : El W (.slice a n c) l) (hn : l.length = n) (k : Nat) (hk : k ≤ n) (hp : 0 < n) :
    ∃ u, (∀ W2, (Instr.slice 34 (.slice a n c) (some (.int .i64 (k : Int))) none none).run Tryz.prog W2 = .ok u W2) ∧ U.IntsAt W u (l.drop k) := by
  have hc := (h.2 _ _ _ rfl).1
  obtain ⟨b, off, e, hb, hcell⟩ := N.Row21.cell h.1 hn.symm (by omega)
  subst e
  have hd : (l.drop k).length = n - k := by rw [List.length_drop, hn]
  refine ⟨.slice (if c = k then some ⟨b, off, none⟩ else some ⟨b, off + k, none⟩) (n - k) (c - k), fun W2 => ?_, ?_⟩
  · rw [run_slice_l W2 34 (some ⟨b, off, none⟩) n c (by kernel_rfl) .i64 (k : Int) (by omega) (by omega), sizeOfI W2]
    simp only [Result.andThen, sliced, Int.toNat_natCast]
    split
    · rename_i h1
      have : c = k := by omega
      first | rfl | rw [if_pos this]
    · rename_i h1
      have : ¬ c = k := by omega
      first | (simp [Addr.add]; done) | (rw [if_neg this]; simp [Addr.add])
  · by_cases h0 : n = k
    · exact .inl ⟨List.length_eq_zero_iff.1 (by omega), _, _, by rw [h0, Nat.sub_self]⟩
    · refine .inr ⟨by omega, b, off + k, c - k, by rw [if_neg (by omega), hd], fun j hj => ?_⟩
      rw [hd] at hj
      have := hcell (k + j) (by omega)
      rw [List.getElem?_drop, Nat.add_assoc]
      exact this
theorem one_a {l : List Int} {hy : Bool} (h : L.pre4 l = false) : one l hy = (l, L.flt l hy) := by unfold one; rw [if_pos h]
theorem one_b {l : List Int} {hy : Bool} (h : L.pre4 l = true) (h2 : plain l = false) : one l hy = (l, 512) := by unfold one; rw [if_neg (by rw [h]; decide), if_pos h2]
theorem one_c {l : List Int} {hy : Bool} (h : L.pre4 l = true) (h2 : plain l = true) (h3 : ¬ (P.decA (l.drop 4)).2 = 0 ∨ plain (P.decA (l.drop 4)).1 = true) : one l hy = (l, 512) := by
  unfold one
  rw [if_neg (by rw [h]; decide), if_neg (by rw [h2]; decide)]
  unfold rdx
  unfold P.decA at h3
  split
  · rfl
  · rename_i m hm
    split at hm
    · cases hm
    · rename_i k1
      rw [if_neg k1] at h3
      split at hm
      · cases hm
      · rename_i k2
        rw [if_neg k2, hm] at h3
        rcases h3 with h3 | h3
        · exact absurd rfl h3
        · rw [if_pos h3]
theorem one_d {l : List Int} {hy : Bool} (h : L.pre4 l = true) (h2 : plain l = true) (h3 : (P.decA (l.drop 4)).2 = 0) (h4 : plain (P.decA (l.drop 4)).1 = false) : one l hy = ((P.decA (l.drop 4)).1, L.flt (P.decA (l.drop 4)).1 hy) := by
  unfold one
  rw [if_neg (by rw [h]; decide), if_neg (by rw [h2]; decide)]
  unfold rdx
  unfold P.decA at h3 h4 ⊢
  split at h3
  · exact absurd h3 (by decide)
  · rename_i k1
    rw [if_neg k1] at h4
    rw [if_neg k1]
    split at h3
    · exact absurd h3 (by decide)
    · rename_i k2
      rw [if_neg k2] at h4
      rw [if_neg k2]
      cases hd : P.DecP (l.drop 4) with
      | none => rw [hd] at h3; exact absurd h3 (by decide)
      | some pts =>
        rw [hd] at h4
        simp only at h4 ⊢
        rw [if_neg (by rw [h4]; decide), if_neg k1, if_neg k2]

theorem plain4 {l : List Int} (h : plain l = true) : ∀ c ∈ l.drop 4, 0 ≤ c ∧ c < 128 := fun c hc => plain_iff.1 h c (List.mem_of_mem_drop hc)
theorem pre4_len {l : List Int} (h : L.pre4 l = true) : 4 ≤ l.length := by
  have e : l.take 4 = [120, 110, 45, 45] := of_decide_eq_true h
  have := congrArg List.length e
  rw [List.length_take] at this
  simp at this; omega
theorem El.nil (W : World) : El W (.slice none 0 0) [] := ⟨⟨none, 0, rfl, fun hp => absurd hp (by simp)⟩, fun a n c e => by cases e; exact ⟨Nat.le_refl _, fun _ => rfl⟩⟩
theorem dec_el {l : List Int} {W : World} {base : Nat} {v : Value} {e : Int} (h : P.DecR l W base v e) : El W v (P.decA l).1 := by
  unfold P.decA
  rcases h with ⟨h1, rfl, rfl⟩ | ⟨h1, h2, rfl, rfl⟩ | ⟨h1, h2, pts, h3, rfl, h4⟩
  · rw [if_pos h1]; exact El.nil W
  · rw [if_neg (by omega)]
    split
    · exact El.nil W
    · rename_i h3
      rcases h2 with h2 | h2
      · exact absurd h2 h3
      · rw [h2]; exact El.nil W
  · rw [if_neg (by omega), if_neg (by rw [h2]; exact Bool.noConfusion), h3]
    exact El.own rfl h4
/-- What one answers: the label, and what is wrong with it. -/
def OneR (l : List Int) (hy : Bool) (w : World) (e : Ending) (W' : World) : Prop := ∃ u, e = .returned (.tuple #[u, .int .u16 (one l hy).2]) ∧ El W' u (one l hy).1 ∧ Below w.heap.size w W'
set_option maxRecDepth 100000 in
set_option maxHeartbeats 8000000 in
theorem rone_any (v : Value) (l : List Int) (hy : Bool) (w : World) (hlen : l.length ≤ 10000) (hv : El w v l) :
    Calls Tryz.prog 37 #[v, .bool hy] w fun e W' => OneR l hy w e W' := by
  have HV := hid hv
  have hI := hv.ints
  have HI := hid hI
  obtain ⟨a, c, rfl, -⟩ := L.ints_form hI
  have HBG := hid (L.rbegins_any _ l w (by omega) hI)
  have HFL := hid (fun W (h : Below w.heap.size w W) => L.rfaults_any _ hy l W hlen (hI.below h (Nat.le_refl _)))
  have HPL := hid (rplain_any _ l w (by omega) hI)
  obtain ⟨n, hn⟩ : ∃ n, l.length = n := ⟨_, rfl⟩
  have HN := hid hn
  rw [hn] at HV HI HBG HFL HPL hlen ⊢
  clear hv hI hn
  cases hp : L.pre4 l with
  | false =>
    have HO := hid (one_a (hy := hy) hp)
    rw [hp] at HBG
    have HFW := hid (HFL.out w (Below.refl _ _))
    obtain ⟨F, hF⟩ : ∃ F, L.flt l hy = F := ⟨_, rfl⟩
    rw [hF] at HFW HO
    clear hp hF HFL
    go_enter Tryz.func37, Tryz.ntmps37
    go_wp2_with (first
      | (go_at_call 68; refine HBG.out.mono ?_; rintro e wb ⟨rfl, hwb⟩; obtain rfl := hwb.symm)
      | (go_at_call 69; refine HFW.out.mono ?_; rintro e w1 ⟨rfl, B1⟩))
    go_ret2
    unfold OneR
    rw [HO.out]
    exact ⟨_, rfl, HV.out.below B1, B1⟩
  | true =>
    rw [hp] at HBG
    cases hq : plain l with
    | false =>
      have HO := hid (one_b (hy := hy) hp hq)
      rw [hq] at HPL
      clear hp hq HFL
      go_enter Tryz.func37, Tryz.ntmps37
      go_wp2_with (first
        | (go_at_call 68; refine HBG.out.mono ?_; rintro e wb ⟨rfl, hwb⟩; obtain rfl := hwb.symm)
        | (go_at_call 26; refine HPL.out.mono ?_; rintro e wb ⟨rfl, hwb⟩; obtain rfl := hwb.symm))
      go_ret2
      unfold OneR
      rw [HO.out]
      exact ⟨_, rfl, HV.out, Below.refl _ _⟩
    | true =>
      rw [hq] at HPL
      have hl4 := pre4_len hp
      rw [HN.out] at hl4
      obtain ⟨u, hsl, hIu⟩ := HV.out.drop HN.out 4 hl4 (by omega)
      have hsl4 : ∀ W2, (Instr.slice 34 (.slice a n c) (some (.int .i64 4)) none none).run Tryz.prog W2 = .ok u W2 := hsl
      have HTX := hid (rtext_any u (l.drop 4) w (by rw [List.length_drop, HN.out]; omega) (plain4 hq) hIu)
      have HOC := hid (one_c (hy := hy) hp hq)
      have HOD := hid (one_d (hy := hy) hp hq)
      have HBY : Hid (U.Bytes (l.drop 4)) := fun c hc => by have := plain4 hq c hc; omega
      obtain ⟨T, hT⟩ : ∃ T, l.drop 4 = T := ⟨_, rfl⟩
      rw [hT] at HTX HOC HOD HBY
      clear hp hq hsl hIu hT
      go_enter Tryz.func37, Tryz.ntmps37
      go_upto_if 17 with (first
        | (go_at_call 68; refine HBG.out.mono ?_; rintro e wb ⟨rfl, hwb⟩; obtain rfl := hwb.symm)
        | (go_at_call 26; refine HPL.out.mono ?_; rintro e wb ⟨rfl, hwb⟩; obtain rfl := hwb.symm))
      go_upto_region 6 with (first
        | (go_at_call 70; refine (P.rdecode_any t _).mono ?_; rintro e w3 ⟨⟨v3, r3, rfl, hD⟩, B3⟩; have HD := hid hD; have HB3 := hid B3; obtain ⟨a3, c3, he3, _⟩ := L.ints_form (dec_el hD).ints; have HE3 := hid he3; clear hD B3 he3; obtain ⟨q, hq⟩ : ∃ q, (P.decA (U.bn t)).1.length = q := ⟨_, rfl⟩; rw [hq] at HE3; obtain rfl := HE3.out; have HQ := hid hq; clear hq)
        | (go_at_call 27; refine HTX.out.mono ?_; rintro e w2 ⟨⟨t, rfl, ht⟩, B2⟩; have HT := hid ht; have HB2 := hid B2; clear ht B2))
      obtain ⟨e1, e2⟩ : U.IntsAt w3 (.slice a3 q c3) (P.decA T).1 ∧ r3 = (P.decA T).2 := by
        have := HD.out.one (U.bn_bytes t)
        rw [HT.out] at this
        exact ⟨this.1, this.2.1⟩
      have h63 : q ≤ 63 := by
        have := (HD.out.one (U.bn_bytes t)).2.2
        rw [HQ.out] at this; exact this
      have hEL : El w3 (.slice a3 q c3) (P.decA T).1 := by
        have := dec_el HD.out
        rwa [HT.out] at this
      have hqT : (P.decA T).1.length = q := by have := HQ.out; rwa [HT.out] at this
      rw [← e2] at HOC HOD
      have BB := hid (HB2.out.trans (HB3.out.mono HB2.out.size))
      have HPM := hid (rplain_any _ (P.decA T).1 w3 (by omega) e1)
      have HFM := hid (L.rfaults_any _ hy (P.decA T).1 w3 (by omega) e1)
      have HEL := hid hEL
      obtain ⟨m, hm⟩ : ∃ m, (P.decA T).1 = m := ⟨_, rfl⟩
      rw [hm] at HOC HOD HPM HFM HEL
      obtain ⟨F, hF⟩ : ∃ F, L.flt m hy = F := ⟨_, rfl⟩
      rw [hF] at HFM HOD
      obtain ⟨pm, hpm⟩ : ∃ pm, plain m = pm := ⟨_, rfl⟩
      rw [hpm] at HPM HOC HOD
      have HVV := hid (HV.out.below BB.out)
      clear e1 e2 hEL hqT hm hF hpm HD HT HQ HE3 HB2 HB3 HTX HFL HPL HBG HI HV
      by_cases hr : r3 = 0
      · subst hr
        cases pm with
        | true =>
          have HO := hid (HOC.out (.inr rfl))
          go_wp2_with (go_at_call 26; refine HPM.out.mono ?_; rintro e wb ⟨rfl, hwb⟩; obtain rfl := hwb.symm)
          go_ret2
          unfold OneR
          rw [HO.out]
          exact ⟨_, rfl, HVV.out, BB.out⟩
        | false =>
          have HO := hid (HOD.out rfl rfl)
          go_wp2_with (first
            | (go_at_call 26; refine HPM.out.mono ?_; rintro e wb ⟨rfl, hwb⟩; obtain rfl := hwb.symm)
            | (go_at_call 69; refine HFM.out.mono ?_; rintro e w4 ⟨rfl, B4⟩))
          go_ret2
          unfold OneR
          rw [HO.out]
          exact ⟨_, rfl, HEL.out.below B4, BB.out.trans (B4.mono BB.out.size)⟩
      · have hrb : (r3 != 0) = true := by simpa using hr
        have hrc : (r3 == 0) = false := by simpa using hr
        have HO := hid (HOC.out (.inl hr))
        go_wp2
        go_ret2
        unfold OneR
        rw [HO.out]
        exact ⟨_, rfl, HVV.out, BB.out⟩
end Go.Proofs.YtdncaehajhmcoaaGreat.I
