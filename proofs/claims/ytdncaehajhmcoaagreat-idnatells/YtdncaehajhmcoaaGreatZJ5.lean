/- Texts of one layer, one behind the other: JD. -/
import Derived.Test.YtdncaehajhmcoaaGreatZJ4
/- The document's own way to process a name. -/
namespace Go.Proofs.YtdncaehajhmcoaaGreat.I
open Go.RowKit
set_option linter.unusedVariables false

theorem infoU16 : (Tryz.prog.info? 33).map (fun i => (i.zero, i.size, i.bytes)) = some (some (.int .u16 0), 1, 2) := by kernel_rfl
theorem own_sh16 {base n : Nat} {v : Value} {X : List Value} {W : World} (h : W.ownsRow base 33 1 v n X) : ∃ a cap, v = .slice a n cap := by
  rcases h.2 with ⟨rfl, h0⟩ | ⟨g, cap, cur, rfl, _⟩
  · exact ⟨none, 0, by rw [h0]⟩
  · exact ⟨_, cap, rfl⟩
/-- A row of another kind that is written leaves a row. -/
theorem own_kept {W W' : World} {base base' e e' size size' n n' : Nat} {v v' : Value} {X X' : List Value} (h : W.ownsRow base e size v n X) (h' : W.ownsRow base' e' size' v' n' X') (he : e ≠ e') (hg : W.grownBy W' v'.ownBlock) : W'.ownsRow base e size v n X := by
  rcases id h with ⟨h1, ⟨rfl, h2⟩ | ⟨g, cap, cur, rfl, hbg, hgg, h3⟩⟩
  · exact ⟨h1, .inl ⟨rfl, h2⟩⟩
  · refine ⟨h1, .inr ⟨g, cap, cur, rfl, hbg, (hg.block g (Array.getElem?_eq_some_iff.1 hgg).1 (fun e2 => ?_)).trans hgg, h3⟩⟩
    rcases h'.2 with ⟨rfl, _⟩ | ⟨g2, cap2, cur2, rfl, _, hg2, _⟩
    · simp [Value.ownBlock] at e2
    · have e3 : g2 = g := by simpa [Value.ownBlock] using e2.symm
      subst e3
      rw [hgg] at hg2
      cases hg2
      exact he rfl
theorem flt_le (l : List Int) (hy : Bool) : L.flt l hy ≤ 255 := by
  by_cases h : l.length = 0
  · unfold L.flt; rw [if_pos h]; omega
  · rw [flt_sum l hy h]
    have k : ∀ (b : Bool) (v : Int), 0 ≤ v → L.bt b v ≤ v := fun b v hv => by unfold L.bt; split <;> omega
    have h1 := k (!decide (N.nfcI l = l)) 1 (by omega)
    have h2 := k (hy && decide (4 ≤ l.length) && decide (l[2]?.getD 0 = 45) && decide (l[3]?.getD 0 = 45)) 2 (by omega)
    have h3 := k (hy && (decide (l[0]?.getD 0 = 45) || decide (l[l.length - 1]?.getD 0 = 45))) 4 (by omega)
    have h4 := k (L.pre4 l) 8 (by omega)
    have h5 := k (l.any (fun r => decide (r = 46))) 16 (by omega)
    have h6 := k (L.mrk (l[0]?.getD 0)) 32 (by omega)
    have h7 := k (l.any L.nval) 64 (by omega)
    have h8 := k (!L.jok l) 128 (by omega)
    omega
theorem one_le (l : List Int) (hy : Bool) : (one l hy).2 ≤ 512 := by
  have h := flt_le l hy
  unfold one
  split
  · show L.flt l hy ≤ 512; omega
  · split
    · exact Int.le_refl _
    · split
      · exact Int.le_refl _
      · rename_i m _
        split
        · exact Int.le_refl _
        · have := flt_le m hy
          show L.flt m hy ≤ 512; omega
theorem one_len (l : List Int) (hy : Bool) (h : l.length ≤ 10000) : (one l hy).1.length ≤ 10000 := by
  unfold one
  split
  · exact h
  · split
    · exact h
    · rename_i h2
      cases hr : rdx (l.drop 4) with
      | none => exact h
      | some m =>
        simp only
        split
        · exact h
        · unfold rdx at hr
          split at hr
          · cases hr
          · split at hr
            · cases hr
            · rename_i h3 h4
              have hp := plain_iff.1 (show plain l = true by simpa using h2)
              have hB : U.Bytes (l.drop 4) := fun c hc => by have := hp c (List.mem_of_mem_drop hc); omega
              have := (P.enc_dec hr (by simpa using h4) hB (by omega)).2.2
              show m.length ≤ 10000
              omega

/-- What has been processed. -/
structure Pr (w1 wr : World) (vo vf : Value) (m : Nat) (vs : List Value) (ys : List (List Int × Int)) : Prop where
  out : wr.ownsRow w1.heap.size 34 1 vo m vs
  els : Els wr vs (ys.map (·.1))
  flt : wr.ownsRow w1.heap.size 33 1 vf m (ys.map fun y => Value.int .u16 y.2)
  be : Below w1.heap.size w1 wr
  len : m = ys.length
theorem Pr.below {w1 wr w2 : World} {vo vf : Value} {m : Nat} {vs : List Value} {ys : List (List Int × Int)} (h : Pr w1 wr vo vf m vs ys) (hb : Below wr.heap.size wr w2) : Pr w1 w2 vo vf m vs ys :=
  ⟨U.ownsRow_below h.out hb (Nat.le_refl _), h.els.below hb, U.ownsRow_below h.flt hb (Nat.le_refl _), h.be.trans (hb.mono h.be.size), h.len⟩
theorem below_alloc (W : World) (o : Obj) : Below W.heap.size W (W.alloc o) := (Below.refl _ W).alloc (Nat.le_refl _) o
theorem Pr.mid {w1 w2 w3 : World} {vo vo' vf : Value} {m : Nat} {vs : List Value} {ys : List (List Int × Int)} {u : Value} (h : Pr w1 w2 vo vf m vs ys)
    (g3 : (w2.alloc (.cells #[u] 34)).grownBy w3 vo.ownBlock) : w3.ownsRow w1.heap.size 33 1 vf m (ys.map fun y => Value.int .u16 y.2) ∧ w1.heap.size ≤ w3.heap.size := by
  refine ⟨own_kept (h.flt.alloc _) (h.out.alloc _) (by decide) g3, ?_⟩
  have h1 := h.be.size
  have h2 := g3.size
  simp at h2
  omega
theorem Pr.push {w1 w2 w3 w4 : World} {vo vo' vf vf' : Value} {m : Nat} {vs : List Value} {ys : List (List Int × Int)} {u : Value} {l : List Int} {f : Int} (h : Pr w1 w2 vo vf m vs ys) (hu : El w2 u l)
    (h3 : w3.ownsRow w1.heap.size 34 1 vo' (m + 1) (vs ++ [u])) (g3 : (w2.alloc (.cells #[u] 34)).grownBy w3 vo.ownBlock)
    (h4 : w4.ownsRow w1.heap.size 33 1 vf' (m + 1) ((ys.map fun y => Value.int .u16 y.2) ++ [.int .u16 f])) (g4 : (w3.alloc (.cells #[.int .u16 f] 33)).grownBy w4 vf.ownBlock) : Pr w1 w4 vo' vf' (m + 1) (vs ++ [u]) (ys ++ [(l, f)]) := by
  have ba := below_alloc w2 (.cells #[u] 34)
  have o2 := h.out.alloc (.cells #[u] 34)
  have e3 := ((h.els.below ba).kept o2 (by decide) g3).snoc ((hu.below ba).kept o2 (by decide) g3)
  have f3 := (h.mid (vo' := vo') g3).1
  have bb := below_alloc w3 (.cells #[.int .u16 f] 33)
  have f4 := f3.alloc (.cells #[.int .u16 f] 33)
  have b3 : Below w1.heap.size w1 w3 := U.below_grow (h.be.alloc h.be.size _) (Nat.le_trans h.be.size (by simp)) o2 g3
  refine ⟨own_kept (h3.alloc _) f4 (by decide) g4, ?_, ?_, U.below_grow (b3.alloc b3.size _) (Nat.le_trans b3.size (by simp)) f4 g4, by rw [List.length_append, ← h.len]; rfl⟩
  · rw [List.map_append]
    exact (e3.below bb).kept f4 (by decide) g4
  · rw [List.map_append]; exact h4
theorem wpList_append_u16 {w : World} {ops : Array Oper} {rest : List Oper} {o : Oper} {a : Act} {Q : Exit → Act → World → Prop} (hgd : o.guard = none) (s x : Operand)
    (ho : o.op = .call { callee := .builtin .append, args := #[s, x], argTypes := #[29, 29] }) (base : Nat) (v : Value) (n : Nat) (vs : List Value) (hs : a.eval s = v) (hown : w.ownsRow base 33 1 v n vs)
    (ad : Addr) (f : Int) (hx : a.eval x = .slice (some ad) 1 1) (hu : w.cell? ad = some (.int .u16 f)) (hbd : n ≤ 100000) (hbase : base ≤ w.heap.size)
    (h : ∀ v' w', w'.ownsRow base 33 1 v' (n + 1) (vs ++ [.int .u16 f]) → w.grownBy w' v.ownBlock → wpList Tryz.prog ops Q rest (a.put o.dst v') w') : wpList Tryz.prog ops Q (o :: rest) a w := by
  obtain ⟨i0, hi, hz0, hz1, hz2⟩ := info_parts infoU16
  refine wpList_append_own w hgd s x 29 ho base 33 i0 (.int .u16 0) 1 2 Tryz.underlying29 hi hz0 hz1 hz2 rfl (by decide) v n _ hs hown ad 1 1 [.int .u16 f] hx rfl ?_ ?_ (by unfold maxLen; omega) (by omega) hbase (fun v' w' h1 h2 _ => h v' w' h1 h2)
  · intro j y hj
    have hj0 : j = 0 := by
      have := (List.getElem?_eq_some_iff.1 hj).1
      simpa using this
    subst hj0
    simp at hj
    subst hj
    simpa [Addr.add] using hu
  · intro y hy
    simp at hy
    subst hy
    rfl
theorem spl_len : ∀ l : List Int, (spl l).length ≤ l.length + 1
  | [] => by simp [spl]
  | c :: l => by
    obtain ⟨a, t, h⟩ := spl_ne l
    have ih := spl_len l
    by_cases hc : c = 46
    · rw [spl, if_pos hc]; simp; omega
    · rw [spl, if_neg hc, h]
      rw [h] at ih
      simp at ih ⊢; omega
theorem spl_each : ∀ l : List Int, ∀ a ∈ spl l, a.length ≤ l.length
  | [], a, h => by simp [spl] at h; simp [h]
  | c :: l, a, h => by
    obtain ⟨b, t, hb⟩ := spl_ne l
    have ih := spl_each l
    by_cases hc : c = 46
    · rw [spl, if_pos hc] at h
      rcases List.mem_cons.1 h with rfl | h
      · simp
      · have := ih a h; simp; omega
    · rw [spl, if_neg hc, hb] at h
      rw [hb] at ih
      rcases List.mem_cons.1 h with rfl | h
      · have := ih b (by simp); simp; omega
      · have := ih a (by simp [h]); simp; omega
theorem own_base' {W : World} {a b e size : Nat} {v : Value} {n : Nat} {X : List Value} (h : W.ownsRow b e size v n X) (hab : a ≤ b) : W.ownsRow a e size v n X := by
  rcases h with ⟨h1, h2 | ⟨g, cap, cur, rfl, hbg, h3⟩⟩
  · exact ⟨h1, .inl h2⟩
  · exact ⟨h1, .inr ⟨g, cap, cur, rfl, Nat.le_trans hab hbg, h3⟩⟩
theorem Pr.base {w w1 wr : World} {vo vf : Value} {m : Nat} {vs : List Value} {ys : List (List Int × Int)} (h : Pr w1 wr vo vf m vs ys) (hb : Below w.heap.size w w1) : Pr w wr vo vf m vs ys :=
  ⟨own_base' h.out hb.size, h.els, own_base' h.flt hb.size, hb.trans (h.be.mono hb.size), h.len⟩
theorem row_cell {W : World} {base e n cap : Nat} {a : Option Addr} {X : List Value} (h : W.ownsRow base e 1 (.slice a n cap) n X) (k : Nat) (hk : k < n) : ∃ g, a = some ⟨g, 0, none⟩ ∧ W.cell? ⟨g, k, none⟩ = some (X[k]?.getD undef) ∧ W.frozen? ⟨g, k, none⟩ = false := by
  rcases id h.2 with ⟨e1, h0⟩ | ⟨g, cap', cur, e1, _, hg, _⟩
  · omega
  · cases e1
    refine ⟨g, rfl, ?_, by simp [World.frozen?, hg]⟩
    have hl := h.1
    rw [h.cellAt k (by omega), List.getElem?_eq_getElem (by omega)]; rfl
theorem el_shape {W : World} {u : Value} {l : List Int} (h : El W u l) : ∃ a c, u = .slice a l.length c := by
  obtain ⟨a, c, e, _⟩ := h.1
  exact ⟨a, c, e⟩
def ysOf (S : List (List Int)) (hy : Bool) (k : Nat) : List (List Int × Int) := (S.take k).map fun l => one l hy
theorem ysOf_succ (S : List (List Int)) (hy : Bool) (k : Nat) (h : k < S.length) : ysOf S hy (k + 1) = ysOf S hy k ++ [one (S[k]?.getD []) hy] := by
  unfold ysOf
  rw [List.take_succ_eq_append_getElem h, List.map_append, List.getElem?_eq_getElem h]; rfl
theorem anyR_snoc (ys : List (List Int × Int)) (y : List Int × Int) : anyR (ys ++ [y]) = (anyR ys || L.goesR y.1) := by simp [anyR]
theorem Pr.lastEl {w1 w2 w3 w4 : World} {vo vf : Value} {m : Nat} {vs : List Value} {ys : List (List Int × Int)} {u : Value} {l : List Int} {f : Int} (h : Pr w1 w2 vo vf m vs ys) (hu : El w2 u l)
    (g3 : (w2.alloc (.cells #[u] 34)).grownBy w3 vo.ownBlock) (g4 : (w3.alloc (.cells #[.int .u16 f] 33)).grownBy w4 vf.ownBlock) : El w4 u l :=
  (((hu.below (below_alloc w2 _)).kept (h.out.alloc _) (by decide) g3).below (below_alloc w3 _)).kept ((h.mid (vo' := vo) g3).1.alloc _) (by decide) g4
def zsOf (ys : List (List Int × Int)) (k : Nat) : List (List Int × Int) := (ys.take k).map bid1 ++ ys.drop k
theorem zs_fst (ys : List (List Int × Int)) (k : Nat) : (zsOf ys k).map (·.1) = ys.map (·.1) := by
  unfold zsOf
  rw [List.map_append, List.map_map]
  have : ((·.1) ∘ bid1 : List Int × Int → List Int) = (·.1) := rfl
  rw [this, ← List.map_append, List.take_append_drop]
theorem zs_split (ys : List (List Int × Int)) (k : Nat) (h : k < ys.length) : zsOf ys k = (ys.take k).map bid1 ++ ys[k] :: ys.drop (k + 1) ∧ zsOf ys (k + 1) = (ys.take k).map bid1 ++ bid1 ys[k] :: ys.drop (k + 1) := by
  unfold zsOf
  refine ⟨by rw [List.drop_eq_getElem_cons h], ?_⟩
  rw [List.take_succ_eq_append_getElem h, List.map_append, List.append_assoc]; rfl
theorem zs_ok (ys : List (List Int × Int)) (k : Nat) (h : k < ys.length) (hb : L.bidiOk ys[k].1 = true) : zsOf ys (k + 1) = zsOf ys k := by
  obtain ⟨e1, e2⟩ := zs_split ys k h
  rw [e1, e2]
  have : bid1 ys[k] = ys[k] := by unfold bid1; rw [hb]; rfl
  rw [this]
theorem zs_bad (ys : List (List Int × Int)) (k : Nat) (h : k < ys.length) (hb : L.bidiOk ys[k].1 = false) : (zsOf ys (k + 1)).map (fun y => Value.int .u16 y.2) = ((zsOf ys k).map (fun y => Value.int .u16 y.2)).set k (.int .u16 (ys[k].2 + 256)) := by
  obtain ⟨e1, e2⟩ := zs_split ys k h
  rw [e1, e2]
  have hl : ((ys.take k).map bid1).length = k := by rw [List.length_map, List.length_take]; omega
  have : bid1 ys[k] = (ys[k].1, ys[k].2 + 256) := by unfold bid1; rw [hb]; rfl
  rw [this, List.map_append, List.map_append, List.map_cons, List.map_cons, List.set_append_right _ _ (by simp; omega)]
  simp only [List.length_map]
  rw [show k - (ys.take k).length = 0 by rw [List.length_take]; omega]
  rfl
theorem zs_get (ys : List (List Int × Int)) (k : Nat) (h : k < ys.length) : (zsOf ys k)[k]? = some ys[k] := by
  obtain ⟨e1, _⟩ := zs_split ys k h
  have hl : ((ys.take k).map bid1).length = k := by rw [List.length_map, List.length_take]; omega
  rw [e1, List.getElem?_append_right (by omega), hl, Nat.sub_self]; rfl
theorem zs_len (ys : List (List Int × Int)) (k : Nat) : (zsOf ys k).length = ys.length := by
  have := congrArg List.length (zs_fst ys k)
  simpa using this
/-- It answers labels, and what is wrong with each. -/
def ProcR (xs : List (List Int × Int)) (w : World) (e : Ending) (W' : World) : Prop := ∃ v f vs, e = .returned (.tuple #[v, f]) ∧ Pr w W' v f xs.length vs xs
set_option maxRecDepth 100000 in
set_option maxHeartbeats 16000000 in
theorem rprocess_any (s : ByteArray) (hy : Bool) (w : World) (hs : s.size ≤ 1200) :
    Calls Tryz.prog 14 #[.string s, .bool hy] w fun e W' => ProcR (prc (Mp (U.dec (U.bn s))) hy) w e W' := by
  have HMP := hid (rMap_any s w hs)
  have hml : (Mp (U.dec (U.bn s))).length ≤ 2400 := by
    have h1 := Mp_nu (U.bn s) (U.bn_bytes s)
    rw [U.bn_length] at h1
    have h2 : ∀ l : List Int, 2 * l.length ≤ nus l := by
      intro l
      induction l with
      | nil => simp [nus]
      | cons c l ih =>
        have := nu_le c
        rw [nus_cons, List.length_cons]; omega
    have := h2 (Mp (U.dec (U.bn s)))
    omega
  obtain ⟨X, hX⟩ : ∃ X, Mp (U.dec (U.bn s)) = X := ⟨_, rfl⟩
  rw [hX] at HMP hml ⊢
  have HE := hid (spl_each X)
  have hsl := spl_len X
  obtain ⟨S, hS⟩ : ∃ S, spl X = S := ⟨_, rfl⟩
  rw [hS] at hsl HE
  have HSS := hid hS
  obtain ⟨n, hn⟩ : ∃ n, S.length = n := ⟨_, rfl⟩
  rw [hn] at hsl
  have HN := hid hn
  clear hX hS hn
  go_enter Tryz.func14, Tryz.ntmps14
  go_wp2_with (first
    | (go_at_call 20; refine (rsplit_any _ X _ (by omega) (U.IntsAt.own rfl R0.out)).mono ?_; rintro e w1 ⟨v1, vi, rfl, r1, hel, B1⟩; rw [HSS.out, HN.out] at r1; rw [HSS.out] at hel; have R1 := hid r1; have HEL := hid hel; have HB1 := hid (HB0.out.trans (B1.mono HB0.out.size)); obtain ⟨a1, c1, rfl⟩ := own_sh22 r1; clear r1 hel B1)
    | (go_at_call 16; refine HMP.out.mono ?_; rintro e w0 ⟨v0, rfl, r0, B0⟩; have R0 := hid r0; have HB0 := hid B0; obtain ⟨a0, c0, rfl⟩ := own_sh21 r0; clear r0 B0))
  go_loopw [7, 8, 9, 10] (fun v7 v8 v9 v10 wr => ∃ (k co cf : Nat) (ao af : Option Addr) (vs : List Value), k ≤ n ∧ v7 = .slice ao k co ∧ v8 = .slice af k cf ∧ v9 = .bool (anyR (ysOf S hy k)) ∧ v10 = .int .i64 k ∧ Hid (Pr w1 wr (.slice ao k co) (.slice af k cf) k vs (ysOf S hy k))) (fun _ _ _ v10 _ => n - (intOf v10).toNat)
  case atStart => exact ⟨0, 0, 0, none, none, [], Nat.zero_le _, rfl, rfl, rfl, rfl, ⟨World.ownsRow_nil _ _ _ _, Els.nil _, World.ownsRow_nil _ _ _ _, Below.refl _ _, rfl⟩⟩
  case round =>
    obtain ⟨k, co, cf, ao, af, vs, hk, rfl, rfl, rfl, rfl, HPr⟩ := hrel
    by_cases hlt : k < n
    · have hkS : k < S.length := by rw [HN.out]; exact hlt
      have HYS := hid (ysOf_succ S hy k hkS)
      have HAS := hid (anyR_snoc (ysOf S hy k) (one (S[k]?.getD []) hy))
      rw [← HYS.out] at HAS
      have hel1 := HEL.out.2 k hkS
      have hmem : S[k]?.getD [] ∈ S := by rw [List.getElem?_eq_getElem hkS]; exact List.getElem_mem hkS
      have hll : (S[k]?.getD []).length ≤ 10000 := by have := HE.out _ hmem; omega
      obtain ⟨gi, rfl, hci, -⟩ := row_cell (U.ownsRow_below R1.out HPr.out.be (Nat.le_refl _)) k hlt
      obtain ⟨ai, ci, hui⟩ := el_shape hel1
      have hel := hel1.below HPr.out.be
      rw [hui] at hci hel
      have HONE := hid (rone_any _ (S[k]?.getD []) hy wr hll hel)
      have hol := one_len (S[k]?.getD []) hy hll
      have ho0 := one_nonneg (S[k]?.getD []) hy
      have ho1 := one_le (S[k]?.getD []) hy
      unfold OneR at HONE
      obtain ⟨⟨l', f⟩, hlf⟩ : ∃ y, one (S[k]?.getD []) hy = y := ⟨_, rfl⟩
      rw [hlf] at HONE HYS HAS hol ho0 ho1
      simp only at HONE hol ho0 ho1 HAS
      obtain ⟨q, hq⟩ : ∃ q, l'.length = q := ⟨_, rfl⟩
      have HQ := hid hq
      rw [hq] at hol
      obtain ⟨p, hp⟩ : ∃ p, (S[k]?.getD []).length = p := ⟨_, rfl⟩
      rw [hp] at hci HONE
      obtain ⟨rt, hrt⟩ : ∃ rt, anyR (ysOf S hy k) = rt := ⟨_, rfl⟩
      rw [hrt] at HAS ⊢
      obtain ⟨gr, hgr⟩ : ∃ gr, L.goesR l' = gr := ⟨_, rfl⟩
      rw [hgr] at HAS
      have HGR := hid hgr
      clear hel hel1 hui hmem hll hlf hq hp hrt hgr
      go_upto_region 11 with (first
        | (at_builtin; refine wpList_append_u16 rfl _ _ rfl w1.heap.size _ k _ rfl (HF3.out.1.alloc _) ⟨w3.heap.size, 0, none⟩ f rfl (Boxed.new w3 33 (.int .u16 f)).cell (by omega) (by have := HF3.out.2; simp; omega) ?_; intro v4 w4 r4 g4; obtain ⟨a4, c4, rfl⟩ := own_sh16 r4; have R4 := hid r4; have G4 := hid g4; clear r4 g4)
        | (at_builtin; refine wpList_append_row rfl _ _ rfl w1.heap.size _ k vs rfl (HP2.out.out.alloc _) ⟨w2.heap.size, 0, none⟩ (.slice au q cu) rfl (Boxed.new w2 34 (.slice au q cu)).cell ⟨_, _, _, rfl⟩ (by omega) (by have := HP2.out.be.size; simp; omega) ?_; intro v3 w3 r3 g3; obtain ⟨a3, c3, rfl⟩ := own_sh22 r3; have R3 := hid r3; have G3 := hid g3; have HF3 := hid (HP2.out.mid (vo' := Value.slice a3 (k + 1) c3) g3); clear r3 g3)
        | (go_at_call 37; refine HONE.out.mono ?_; rintro e w2 ⟨u, rfl, hu, B2⟩; obtain ⟨au, cu, hue⟩ := el_shape hu; rw [HQ.out] at hue; subst hue; have HU := hid hu; have HP2 := hid (HPr.out.below B2); clear hu B2))
      have HP4 := hid (HP2.out.push HU.out R3.out G3.out R4.out G4.out)
      have hlast := HP2.out.lastEl HU.out G3.out G4.out
      have HRT := hid (L.rright_any _ l' w4 (by rw [HQ.out]; omega) hlast.ints)
      rw [HGR.out] at HRT
      have HPN : Hid (∀ w5, Below w4.heap.size w4 w5 → Pr w1 w5 (.slice a3 (k + 1) c3) (.slice a4 (k + 1) c4) (k + 1) (vs ++ [.slice au q cu]) (ysOf S hy (k + 1))) := fun w5 B5 => by
        rw [HYS.out]; exact HP4.out.below B5
      clear hlast HP4 HP2 HU R3 G3 R4 G4 HF3 HYS HONE HPr hci
      cases rt with
      | true =>
        go_wp2
        go_roundw
        case rel => exact ⟨k + 1, c3, c4, a3, a4, _, by omega, rfl, rfl, by rw [HAS.out]; rfl, by go_num, HPN.out w4 (Below.refl _ _)⟩
        case measure => simp [intOf]; omega
      | false =>
        go_wp2_with (go_at_call 21; refine HRT.out.mono ?_; rintro e w5 ⟨rfl, B5⟩)
        go_roundw
        case rel => exact ⟨k + 1, c3, c4, a3, a4, _, by omega, rfl, rfl, by rw [HAS.out]; rfl, by go_num, HPN.out w5 B5⟩
        case measure => simp [intOf]; omega
    · obtain rfl : k = n := by omega
      have hys : ysOf S hy k = S.map fun l => one l hy := by unfold ysOf; rw [List.take_of_length_le (by rw [HN.out]; exact Nat.le_refl _)]
      have HPRC : Hid (prc X hy = if anyR (ysOf S hy k) = true then (ysOf S hy k).map bid1 else ysOf S hy k) := by
        show _ = _
        rw [hys]; unfold prc; rw [HSS.out]
      have HYL : Hid ((ysOf S hy k).length = k) := HPr.out.len.symm
      have HYB : Hid (∀ y ∈ ysOf S hy k, 0 ≤ y.2 ∧ y.2 ≤ 512 ∧ y.1.length ≤ 10000) := fun y hy' => by
        rw [hys] at hy'
        obtain ⟨l, hl, rfl⟩ := List.mem_map.1 hy'
        exact ⟨one_nonneg l hy, one_le l hy, one_len l hy (by have := HE.out l hl; omega)⟩
      obtain ⟨ys, hyy⟩ : ∃ ys, ysOf S hy k = ys := ⟨_, rfl⟩
      rw [hyy] at HPRC HYL HYB HPr ⊢
      have HP0 : Hid (Pr w1 wr (.slice ao k co) (.slice af k cf) k vs (zsOf ys 0)) := HPr.out
      obtain ⟨rt, hrt⟩ : ∃ rt, anyR ys = rt := ⟨_, rfl⟩
      rw [hrt] at HPRC ⊢
      clear hys hyy hrt HPr HMP HEL R1
      go_wp2_with fail
      go_loopw [13] (fun v13 wq => ∃ k2 : Nat, k2 ≤ k ∧ v13 = .int .i64 k2 ∧ Hid (rt = false → k2 = 0) ∧ Hid (Pr w1 wq (.slice ao k co) (.slice af k cf) k vs (zsOf ys k2))) (fun v13 _ => k - (intOf v13).toNat)
      case atStart => exact ⟨0, Nat.zero_le _, rfl, fun _ => rfl, HP0⟩
      case round =>
        clear HP0
        obtain ⟨k2, hk2, rfl, HRF, HQ2⟩ := hrel
        by_cases hin : k2 < k ∧ rt = true
        · obtain ⟨hlt2, rfl⟩ := hin
          have hky : k2 < ys.length := by rw [HYL.out]; exact hlt2
          have hb := HYB.out ys[k2] (List.getElem_mem hky)
          obtain ⟨go, rfl, hco, -⟩ := row_cell HQ2.out.out k2 hlt2
          obtain ⟨gf, rfl, hcf, hff⟩ := row_cell HQ2.out.flt k2 hlt2
          have hel := HQ2.out.els.2 k2 (by rw [zs_fst, List.length_map]; exact hky)
          rw [zs_fst, List.getElem?_map, List.getElem?_eq_getElem hky] at hel
          replace hel : El wr (vs[k2]?.getD undef) ys[k2].1 := hel
          rw [List.getElem?_map, zs_get ys k2 hky] at hcf
          replace hcf : wr.cell? ⟨gf, k2, none⟩ = some (.int .u16 ys[k2].2) := hcf
          obtain ⟨ae, ce, hue⟩ := el_shape hel
          rw [hue] at hco hel
          have HBD := hid (L.rBidi_any _ ys[k2].1 wr (by omega) hel.ints)
          have HZO := hid (zs_ok ys k2 hky)
          have HZB := hid (zs_bad ys k2 hky)
          obtain ⟨bo, hbo⟩ : ∃ bo, L.bidiOk ys[k2].1 = bo := ⟨_, rfl⟩
          rw [hbo] at HBD HZO HZB
          obtain ⟨f2, hf2⟩ : ∃ f2, ys[k2].2 = f2 := ⟨_, rfl⟩
          rw [hf2] at HZB hcf hb
          obtain ⟨p2, hp2⟩ : ∃ p2, ys[k2].1.length = p2 := ⟨_, rfl⟩
          rw [hp2] at hco HBD
          obtain ⟨hb0, hb1, -⟩ := hb
          clear hel hue hbo hf2 hp2
          cases bo with
          | true =>
            have HZ := hid (HZO.out rfl)
            go_wp2_with (go_at_call 38; refine HBD.out.mono ?_; rintro e w5 ⟨rfl, B5⟩)
            go_roundw
            case rel => exact ⟨k2 + 1, by omega, by go_num, (fun h => by cases h), by show Pr _ _ _ _ _ _ _; rw [HZ.out]; exact HQ2.out.below B5⟩
            case measure => simp [intOf]; omega
          | false =>
            have HZ := hid (HZB.out rfl)
            go_upto_if 59 with (go_at_call 38; refine HBD.out.mono ?_; rintro e w5 ⟨rfl, B5⟩)
            have HQ5 := hid (HQ2.out.below B5)
            have hcf5 : w5.cell? ⟨gf, k2, none⟩ = some (.int .u16 f2) := (B5.cell (p := ⟨gf, k2, none⟩) (U.lt_of_cell hcf)).trans hcf
            obtain ⟨g', e', -, hff5⟩ := row_cell HQ5.out.flt k2 hlt2
            cases e'
            have hst := HQ5.out.flt.stored k2 (.int .u16 (f2 + 256))
            have HST := hid hst
            clear B5 hcf hff hco hst
            go_wp2
            go_roundw
            case rel =>
              refine ⟨k2 + 1, by omega, by go_num, (fun h => by cases h), ?_⟩
              show Pr _ _ _ _ _ _ _
              refine ⟨own_kept HQ5.out.out HQ5.out.flt (by decide) HST.out.2, ?_, by rw [HZ.out]; exact HST.out.1, ?_, by rw [zs_len]; exact HYL.out.symm⟩
              · rw [zs_fst, ← zs_fst ys k2]
                exact HQ5.out.els.kept HQ5.out.flt (by decide) HST.out.2
              · exact HQ5.out.be.setCell (p := ⟨gf, k2, none⟩) (by have := (HQ5.out.flt.lt gf rfl).1; exact this) _
            case measure => simp [intOf]; omega
        · have hend : zsOf ys k2 = prc X hy := by
            rw [HPRC.out]
            cases rt with
            | false => rw [HRF.out rfl]; rfl
            | true =>
              have : k2 = k := by
                have : ¬ k2 < k := fun h => hin ⟨h, rfl⟩
                omega
              subst this
              unfold zsOf
              rw [List.take_of_length_le (by rw [HYL.out]; exact Nat.le_refl _), List.drop_of_length_le (by rw [HYL.out]; exact Nat.le_refl _), List.append_nil]; rfl
          have HEN := hid hend
          have hpl : (prc X hy).length = k := by rw [← hend, zs_len]; exact HYL.out
          have HPL := hid hpl
          clear hend hpl
          cases rt with
          | false =>
            have hk0 := HRF.out rfl
            subst hk0
            go_wp2
            all_goals (go_ret2; exact ⟨_, _, vs, rfl, by rw [HPL.out, ← HEN.out]; exact HQ2.out.base HB1.out⟩)
          | true =>
            have hnl : ¬ ((k2 : Int) < (k : Int)) := fun h => hin ⟨by omega, rfl⟩
            clear hin
            go_wp2
            go_ret2
            exact ⟨_, _, vs, rfl, by rw [HPL.out, ← HEN.out]; exact HQ2.out.base HB1.out⟩
end Go.Proofs.YtdncaehajhmcoaaGreat.I
