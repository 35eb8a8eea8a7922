/- Texts of one layer, one behind the other: JE JF. -/
import Derived.Test.YtdncaehajhmcoaaGreatZJ5
import Derived.Test.YtdncaehajhmcoaaGreatZP8
import Derived.Laws.Concat
/- The document's Unicode. -/
namespace Go.Proofs.YtdncaehajhmcoaaGreat.I
open Go.RowKit
set_option linter.unusedVariables false

theorem El.src {W : World} {u : Value} {l : List Int} (h : El W u l) : U.SrcInts W u l := by
  obtain ⟨a, cap, rfl, hf⟩ := id h.1
  have h2 := h.2 _ _ _ rfl
  cases a with
  | none =>
    have h0 : l.length = 0 := Nat.eq_zero_of_not_pos (fun hp => by obtain ⟨b, off, cur, e, _⟩ := hf hp; cases e)
    have e1 := h2.2 rfl
    exact .inl ⟨by rw [h0, e1], List.length_eq_zero_iff.1 h0⟩
  | some ad =>
    refine .inr ⟨ad, cap, rfl, fun j hj => ?_⟩
    obtain ⟨b, off, cur, e, hg, hc⟩ := hf (by omega)
    cases e
    rw [Addr.add_lit]
    simp [World.cell?, hg, hc j hj]
theorem join_snoc : ∀ (ls : List (List Int)) (a : List Int), ls ≠ [] → join (ls ++ [a]) = join ls ++ 46 :: a
  | [], a, h => absurd rfl h
  | [b], a, _ => by simp [join]
  | b :: c :: l, a, _ => by
    have := join_snoc (c :: l) a (by simp)
    show join (b :: c :: (l ++ [a])) = _
    rw [join, join]
    show b ++ 46 :: join ((c :: l) ++ [a]) = _
    rw [this]; simp
theorem noF_snoc (xs : List (List Int × Int)) (x : List Int × Int) : noF (xs ++ [x]) = (noF xs && decide (x.2 = 0)) := by simp [noF]
theorem take_x (xs : List (List Int × Int)) (k : Nat) (h : k < xs.length) : xs.take (k + 1) = xs.take k ++ [xs[k]] := List.take_succ_eq_append_getElem h
theorem prc_each (X : List Int) (hy : Bool) (hX : X.length ≤ 2400) : ∀ x ∈ prc X hy, 0 ≤ x.2 ∧ x.2 ≤ 768 ∧ x.1.length ≤ 10000 := by
  have k : ∀ x ∈ (spl X).map (fun l => one l hy), 0 ≤ x.2 ∧ x.2 ≤ 512 ∧ x.1.length ≤ 10000 := fun x hx => by
    obtain ⟨l, hl, rfl⟩ := List.mem_map.1 hx
    exact ⟨one_nonneg l hy, one_le l hy, one_len l hy (by have := spl_each X l hl; omega)⟩
  intro x hx
  unfold prc at hx
  split at hx
  · obtain ⟨y, hy', rfl⟩ := List.mem_map.1 hx
    have := k y hy'
    unfold bid1
    refine ⟨?_, ?_, this.2.2⟩
    · simp only
      split <;> omega
    · simp only
      split <;> omega
  · have := k x hx
    exact ⟨this.1, by omega, this.2.2⟩
theorem prc_len (X : List Int) (hy : Bool) : (prc X hy).length = (spl X).length := by
  unfold prc
  split <;> simp
theorem Mp_len (s : ByteArray) : (Mp (U.dec (U.bn s))).length ≤ 2 * s.size := by
  have h1 := Mp_nu (U.bn s) (U.bn_bytes s)
  rw [U.bn_length] at h1
  have h2 : ∀ l : List Int, 2 * l.length ≤ nus l := by
    intro l
    induction l with
    | nil => simp [nus]
    | cons c l ih =>
      have := nu_le c
      rw [nus_cons, List.length_cons]; omega
  have := h2 (Mp (U.dec (U.bn s)))
  omega
theorem join_len : ∀ (ls : List (List Int)) (B : Nat), (∀ l ∈ ls, l.length ≤ B) → (join ls).length ≤ ls.length * (B + 1)
  | [], B, _ => by simp [join]
  | [a], B, h => by
    have := h a (by simp)
    simp [join]; omega
  | a :: b :: l, B, h => by
    have h1 := join_len (b :: l) B (fun x hx => h x (by simp at hx ⊢; exact .inr hx))
    have h2 := h a (by simp)
    rw [join, List.length_append, List.length_cons, List.length_cons, Nat.add_mul]
    omega
/-- What Unicode answers of a text that is not too long. -/
def UniR (xs : List (List Int × Int)) (w : World) (e : Ending) (W' : World) : Prop := (∃ t r, e = .returned (.tuple #[.string t, .bool (noF xs)]) ∧ U.encQ (join (xs.map (·.1))) t r) ∧ Below w.heap.size w W'
set_option maxRecDepth 100000 in
set_option maxHeartbeats 16000000 in
theorem runi_any (s : ByteArray) (hy : Bool) (w : World) (hs : s.size ≤ 1200) :
    Calls Tryz.prog 12 #[.string s, .bool hy] w fun e W' => UniR (prc (Mp (U.dec (U.bn s))) hy) w e W' := by
  have HPR := hid (rprocess_any s hy w hs)
  have hml := Mp_len s
  have HEA := hid (prc_each (Mp (U.dec (U.bn s))) hy (by omega))
  have hxl := prc_len (Mp (U.dec (U.bn s))) hy
  have hsl := spl_len (Mp (U.dec (U.bn s)))
  obtain ⟨xs, hxs⟩ : ∃ xs, prc (Mp (U.dec (U.bn s))) hy = xs := ⟨_, rfl⟩
  rw [hxs] at HPR HEA hxl ⊢
  obtain ⟨n, hn⟩ : ∃ n, xs.length = n := ⟨_, rfl⟩
  have HN := hid hn
  have hn1 : n ≤ 2401 := by omega
  unfold ProcR at HPR
  rw [hn] at HPR
  clear hxs hn hxl hsl hml
  go_enter Tryz.func12, Tryz.ntmps12
  go_wp2_with (go_at_call 14; refine HPR.out.mono ?_; rintro e w1 ⟨v1, f1, vs, rfl, hP⟩; have HP := hid hP; obtain ⟨a1, c1, rfl⟩ := own_sh22 hP.out; obtain ⟨a2, c2, rfl⟩ := own_sh16 hP.flt; clear hP)
  go_loopw [8, 9, 10] (fun v8 v9 v10 wr => ∃ (k m c : Nat) (a : Option Addr), k ≤ n ∧ m ≤ k * 10001 ∧ v8 = .slice a m c ∧ v9 = .bool (noF (xs.take k)) ∧ v10 = .int .i64 k ∧ Hid (m = (join ((xs.take k).map (·.1))).length) ∧ Hid (wr.ownsRow w1.heap.size 21 1 (.slice a m c) m ((join ((xs.take k).map (·.1))).map (Value.int .i32))) ∧ Hid (Below w1.heap.size w1 wr)) (fun _ _ v10 _ => n - (intOf v10).toNat)
  case atStart => exact ⟨0, 0, 0, none, Nat.zero_le _, Nat.le_refl _, rfl, rfl, rfl, rfl, World.ownsRow_nil _ _ _ _, Below.refl _ _⟩
  case round =>
    obtain ⟨k, m, c, a, hk, hmk, rfl, rfl, rfl, HM, HR, HB⟩ := hrel
    by_cases hlt : k < n
    · have hkx : k < xs.length := by rw [HN.out]; exact hlt
      have HT := hid (take_x xs k hkx)
      have hb := HEA.out _ (List.getElem_mem hkx)
      obtain ⟨g1, rfl, hc1, -⟩ := row_cell HP.out.out k hlt
      obtain ⟨g2, rfl, hc2, -⟩ := row_cell HP.out.flt k hlt
      have hel := HP.out.els.2 k (by rw [List.length_map]; exact hkx)
      rw [List.getElem?_map, List.getElem?_eq_getElem hkx] at hel hc2
      replace hel : El w1 (vs[k]?.getD undef) xs[k].1 := hel
      replace hc2 : w1.cell? ⟨g2, k, none⟩ = some (.int .u16 xs[k].2) := hc2
      obtain ⟨ae, ce, hue⟩ := el_shape hel
      rw [hue] at hc1 hel
      have HNF := hid (noF_snoc (xs.take k) xs[k])
      rw [← HT.out] at HNF
      have HJ : Hid (join ((xs.take (k + 1)).map (·.1)) = if k = 0 then xs[k].1 else join ((xs.take k).map (·.1)) ++ 46 :: xs[k].1) := by
        show _ = _
        rw [HT.out, List.map_append]
        by_cases h0 : k = 0
        · rw [if_pos h0]
          have e0 : xs.take k = [] := by rw [h0]; rfl
          rw [e0]; rfl
        · rw [if_neg h0]
          exact join_snoc _ _ (by intro e; have h := congrArg List.length e; rw [List.length_map, List.length_take, List.length_nil] at h; omega)
      obtain ⟨⟨lk, fk⟩, hlf⟩ : ∃ y, xs[k] = y := ⟨_, rfl⟩
      rw [hlf] at hc2 hel hc1 HNF HJ hb
      simp only at hc2 hel hc1 HNF HJ hb
      obtain ⟨q, hq⟩ : ∃ q, lk.length = q := ⟨_, rfl⟩
      have HQ := hid hq
      rw [hq] at hc1 hel hb
      obtain ⟨hb0, hb1, hb2⟩ := hb
      obtain ⟨fi, hfi⟩ : ∃ fi, noF (xs.take k) = fi := ⟨_, rfl⟩
      rw [hfi] at HNF ⊢
      obtain ⟨Y, hY⟩ : ∃ Y, join ((xs.take k).map (·.1)) = Y := ⟨_, rfl⟩
      rw [hY] at HM HR HJ
      have H1 : Hid (∀ W, Below w1.heap.size w1 W → W.cell? ⟨g1, k, none⟩ = some (.slice ae q ce)) := fun W h => (h.cell (p := ⟨g1, k, none⟩) (U.lt_of_cell hc1)).trans hc1
      have H2 : Hid (∀ W, Below w1.heap.size w1 W → W.cell? ⟨g2, k, none⟩ = some (.int .u16 fk)) := fun W h => (h.cell (p := ⟨g2, k, none⟩) (U.lt_of_cell hc2)).trans hc2
      have HSR : Hid (∀ W, Below w1.heap.size w1 W → U.SrcInts W (.slice ae q ce) lk) := fun W h => (hel.below h).src
      clear hel hue hlf hq hfi hY hc1 hc2
      have z1 := HB.out.size
      by_cases h0 : k = 0
      · have HJ2 : Hid (join ((xs.take (k + 1)).map (·.1)) = Y ++ lk) := by
          show _ = _
          have : Y = [] := List.length_eq_zero_iff.1 (by have := HM.out; omega)
          rw [HJ.out, if_pos h0, this]; rfl
        have h0z : ¬ (0 : Int) < (k : Int) := by omega
        have d1 := H1.out wr HB.out
        clear HJ h0
        go_upto_region 13 with (at_builtin; refine U.wpList_append_ints rfl _ _ rfl w1.heap.size _ m Y rfl HR.out _ lk rfl (HSR.out _ HB.out) (by have := HQ.out; omega) (by omega) ?_; intro v4 w4 r4 g4; rw [HQ.out] at r4; obtain ⟨a4, c4, rfl⟩ := own_sh21 r4; have R4 := hid r4; have HB4 := hid (U.below_grow HB.out HB.out.size HR.out g4); clear r4 g4)
        have d2 := H2.out w4 HB4.out
        clear d1
        have HREL : Hid (∀ wz, wz = w4 → Hid (m + q = (join ((xs.take (k + 1)).map (·.1))).length) ∧ Hid (wz.ownsRow w1.heap.size 21 1 (.slice a4 (m + q) c4) (m + q) ((join ((xs.take (k + 1)).map (·.1))).map (Value.int .i32)))) := by
          rintro wz rfl
          rw [HJ2.out]
          exact ⟨by show _ = _; rw [List.length_append, ← HM.out, HQ.out], R4.out⟩
        cases fi
        · go_wp2
          go_roundw
          case rel => exact ⟨k + 1, m + q, c4, a4, by omega, by rw [Nat.add_mul]; omega, rfl, by rw [HNF.out]; rfl, by go_num, (HREL.out _ rfl).1, (HREL.out _ rfl).2, HB4⟩
          case measure => simp [intOf]; omega
        · go_wp2
          go_roundw
          case rel => exact ⟨k + 1, m + q, c4, a4, by omega, by rw [Nat.add_mul]; omega, rfl, by rw [HNF.out, ← L.beq_dec]; rfl, by go_num, (HREL.out _ rfl).1, (HREL.out _ rfl).2, HB4⟩
          case measure => simp [intOf]; omega
      · have HJ2 : Hid (join ((xs.take (k + 1)).map (·.1)) = Y ++ [46] ++ lk) := by
          show _ = _
          rw [HJ.out, if_neg h0]; simp
        have h0z : (0 : Int) < (k : Int) := by omega
        clear HJ
        go_upto_region 11 with (at_builtin; refine U.wpList_append_ints rfl _ _ rfl w1.heap.size _ m Y rfl (HR.out.alloc _) _ [46] rfl (.inr ⟨⟨wr.heap.size, 0, none⟩, 1, rfl, fun j hj => by (have hj0 : j = 0 := by (simp only [List.length_cons, List.length_nil] at hj; omega)); subst hj0; rw [U.addr_add0]; exact (Boxed.new wr 21 (.int .i32 46)).cell⟩) (by simp only [List.length_cons, List.length_nil]; omega) (by simp; omega) ?_; intro v3 w3 r3 g3; simp only [List.length_cons, List.length_nil, Nat.zero_add] at r3; obtain ⟨a3, c3, rfl⟩ := own_sh21 r3; have R3 := hid r3; have HB3 := hid (U.below_grow (w1 := wr.alloc (.cells #[.int .i32 46] 21)) (HB.out.alloc HB.out.size _) (Nat.le_trans HB.out.size (by simp)) (HR.out.alloc _) g3); clear r3 g3)
        have d1 := H1.out w3 HB3.out
        have z3 := HB3.out.size
        go_upto_region 13 with (at_builtin; refine U.wpList_append_ints rfl _ _ rfl w1.heap.size _ (m + 1) (Y ++ [46]) rfl R3.out _ lk rfl (HSR.out _ HB3.out) (by have := HQ.out; omega) (by omega) ?_; intro v4 w4 r4 g4; rw [HQ.out] at r4; obtain ⟨a4, c4, rfl⟩ := own_sh21 r4; have R4 := hid r4; have HB4 := hid (U.below_grow HB3.out HB3.out.size R3.out g4); clear r4 g4)
        have d2 := H2.out w4 HB4.out
        clear d1
        have HREL : Hid (∀ wz, wz = w4 → Hid (m + 1 + q = (join ((xs.take (k + 1)).map (·.1))).length) ∧ Hid (wz.ownsRow w1.heap.size 21 1 (.slice a4 (m + 1 + q) c4) (m + 1 + q) ((join ((xs.take (k + 1)).map (·.1))).map (Value.int .i32)))) := by
          rintro wz rfl
          rw [HJ2.out]
          exact ⟨by show _ = _; rw [List.length_append, List.length_append, ← HM.out, HQ.out]; rfl, R4.out⟩
        cases fi
        · go_wp2
          go_roundw
          case rel => exact ⟨k + 1, m + 1 + q, c4, a4, by omega, by rw [Nat.add_mul]; omega, rfl, by rw [HNF.out]; rfl, by go_num, (HREL.out _ rfl).1, (HREL.out _ rfl).2, HB4⟩
          case measure => simp [intOf]; omega
        · go_wp2
          go_roundw
          case rel => exact ⟨k + 1, m + 1 + q, c4, a4, by omega, by rw [Nat.add_mul]; omega, rfl, by rw [HNF.out, ← L.beq_dec]; rfl, by go_num, (HREL.out _ rfl).1, (HREL.out _ rfl).2, HB4⟩
          case measure => simp [intOf]; omega
    · have hkk : xs.take k = xs := List.take_of_length_le (by rw [HN.out]; omega)
      rw [hkk] at HM HR ⊢
      have HC := hid (U.refEncode_any _ (join (xs.map (·.1))) (by rw [← HM.out]; omega) wr (U.IntsAt.own HM.out HR.out))
      obtain ⟨fi, hfi⟩ : ∃ fi, noF xs = fi := ⟨_, rfl⟩
      rw [hfi]
      have HFI := hid hfi
      clear hkk hfi
      go_wp2_with (go_at_call 32; refine HC.out.mono ?_; rintro e w2 ⟨⟨t, r, rfl, hq⟩, B2⟩; have HEQ := hid hq; have HB2 := hid (HB.out.trans (B2.mono HB.out.size)); clear hq B2)
      go_ret2
      refine ⟨⟨t, r, by rw [HFI.out]; rfl, HEQ.out⟩, HP.out.be.trans (HB2.out.mono HP.out.be.size)⟩
end Go.Proofs.YtdncaehajhmcoaaGreat.I
/- The document's ASCII: the parts. -/
namespace Go.Proofs.YtdncaehajhmcoaaGreat.I
open Go.RowKit
set_option linter.unusedVariables false

theorem infoS : (Tryz.prog.info? 9).map (fun i => (i.zero, i.size, i.bytes)) = some (some (.string ⟨#[]⟩), 1, 16) := by kernel_rfl
theorem own_shS {base n : Nat} {v : Value} {X : List Value} {W : World} (h : W.ownsRow base 9 1 v n X) : ∃ a cap, v = .slice a n cap := by
  rcases h.2 with ⟨rfl, h0⟩ | ⟨g, cap, cur, rfl, _⟩
  · exact ⟨none, 0, by rw [h0]⟩
  · exact ⟨_, cap, rfl⟩
theorem wpList_append_str {w : World} {ops : Array Oper} {rest : List Oper} {o : Oper} {a : Act} {Q : Exit → Act → World → Prop} (hgd : o.guard = none) (s x : Operand)
    (ho : o.op = .call { callee := .builtin .append, args := #[s, x], argTypes := #[46, 46] }) (base : Nat) (v : Value) (n : Nat) (vs : List Value) (hs : a.eval s = v) (hown : w.ownsRow base 9 1 v n vs)
    (ad : Addr) (t : ByteArray) (hx : a.eval x = .slice (some ad) 1 1) (hu : w.cell? ad = some (.string t)) (hbd : n ≤ 100000) (hbase : base ≤ w.heap.size)
    (h : ∀ v' w', w'.ownsRow base 9 1 v' (n + 1) (vs ++ [.string t]) → w.grownBy w' v.ownBlock → wpList Tryz.prog ops Q rest (a.put o.dst v') w') : wpList Tryz.prog ops Q (o :: rest) a w := by
  obtain ⟨i0, hi, hz0, hz1, hz2⟩ := info_parts infoS
  refine wpList_append_own w hgd s x 46 ho base 9 i0 (.string ⟨#[]⟩) 1 16 Tryz.underlying46 hi hz0 hz1 hz2 rfl (by decide) v n _ hs hown ad 1 1 [.string t] hx rfl ?_ ?_ (by unfold maxLen; omega) (by omega) hbase (fun v' w' h1 h2 _ => h v' w' h1 h2)
  · intro j y hj
    have hj0 : j = 0 := by
      have := (List.getElem?_eq_some_iff.1 hj).1
      simpa using this
    subst hj0
    simp at hj
    subst hj
    simpa [Addr.add] using hu
  · intro y hy
    simp at hy
    subst hy
    rfl
set_option maxRecDepth 100000 in
set_option maxHeartbeats 4000000 in
theorem rencode_long (a : Option Addr) (cap N : Nat) (l : List Int) (hN : l.length = N) (h : 63 < N) (hm : N ≤ 100000) (w : World) :
    Calls Tryz.prog 28 #[.slice a N cap] w fun e W' => (∃ t r, e = .returned (.tuple #[.string t, .int .i64 r]) ∧ P.EncR l t r) ∧ Below w.heap.size w W' := by
  have HN := hid hN
  clear hN
  go_enter Tryz.func28, Tryz.ntmps28
  go_wp2
  go_ret2
  exact ⟨⟨_, _, rfl, .inl ⟨by rw [HN.out]; exact h, rfl, rfl⟩⟩, Below.refl _ _⟩
theorem rencode_all (v : Value) (l : List Int) (hlen : l.length ≤ 100000) (w : World) (hv : U.IntsAt w v l) :
    Calls Tryz.prog 28 #[v] w fun e W' => (∃ t r, e = .returned (.tuple #[.string t, .int .i64 r]) ∧ P.EncR l t r) ∧ Below w.heap.size w W' := by
  by_cases h : 63 < l.length
  · obtain ⟨a, c, rfl, -⟩ := L.ints_form hv
    exact rencode_long a c _ l rfl h hlen w
  · exact P.rencode_any v l (by omega) w hv
/-- Which part a text is. -/
theorem enc_part {l : List Int} {t : ByteArray} {r : Int} (h : P.EncR l t r) (hp : plain l = false) : (r = 0 ∧ Part l ([120, 110, 45, 45] ++ U.bn t) ∧ t.size ≤ 63) ∨ (r ≠ 0 ∧ ¬ ∃ p, Part l p) := by
  rcases h with ⟨h1, rfl, rfl⟩ | ⟨h1, h2, rfl, rfl⟩ | ⟨h1, h2, T, h3, ⟨h4, rfl, rfl⟩ | ⟨h4, h5, rfl⟩⟩
  · refine .inr ⟨by decide, ?_⟩
    rintro ⟨p, ⟨k, _⟩ | ⟨_, T, _, _, hl, _⟩⟩
    · rw [hp] at k; cases k
    · omega
  · refine .inr ⟨by decide, ?_⟩
    rintro ⟨p, ⟨k, _⟩ | ⟨_, T, _, _, _, hs, _⟩⟩
    · rw [hp] at k; cases k
    · rw [h2] at hs; cases hs
  · refine .inr ⟨by decide, ?_⟩
    rintro ⟨p, ⟨k, _⟩ | ⟨_, T', hE, hT, _, _, _⟩⟩
    · rw [hp] at k; cases k
    · rw [h3.one hE] at h4; omega
  · refine .inl ⟨rfl, .inr ⟨hp, T, h3, h4, h1, h2, by rw [h5]⟩, ?_⟩
    rw [← U.bn_length, h5]; exact h4
/-- The parts of labels without faults. -/
def PartsR (xs : List (List Int × Int)) (ts : List ByteArray) : Prop := ts.length = xs.length ∧ ∀ i, i < xs.length → (xs[i]?.getD ([], 0)).2 = 0 ∧ Part (xs[i]?.getD ([], 0)).1 (U.bn (ts[i]?.getD ⟨#[]⟩))
def BadP (xs : List (List Int × Int)) : Prop := ∃ x ∈ xs, x.2 ≠ 0 ∨ ¬ ∃ p, Part x.1 p
theorem PartsR.nil : PartsR [] [] := ⟨rfl, fun i hi => by simp at hi⟩
theorem PartsR.snoc {xs : List (List Int × Int)} {ts : List ByteArray} {x : List Int × Int} {t : ByteArray} (h : PartsR xs ts) (h0 : x.2 = 0) (hp : Part x.1 (U.bn t)) : PartsR (xs ++ [x]) (ts ++ [t]) := by
  refine ⟨by simp [h.1], fun i hi => ?_⟩
  by_cases e : i < xs.length
  · rw [List.getElem?_append_left e, List.getElem?_append_left (by rw [h.1]; exact e)]
    exact h.2 i e
  · have e2 : i = xs.length := by simp at hi; omega
    subst e2
    rw [List.getElem?_append_right (Nat.le_refl _), List.getElem?_append_right (by rw [h.1]; exact Nat.le_refl _), h.1, Nat.sub_self]
    exact ⟨h0, hp⟩
theorem part_size {l p : List Int} (h : Part l p) (hl : l.length ≤ 10000) : p.length ≤ 10000 := by
  rcases h with ⟨_, rfl⟩ | ⟨_, T, _, hT, _, _, rfl⟩
  · exact hl
  · simp; omega
end Go.Proofs.YtdncaehajhmcoaaGreat.I
