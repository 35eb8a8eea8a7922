/- strconv.AppendUint at base 16, for a piece; six.tell. (Stage 11.) -/
import Derived.Test.YtpkmpebhlolhaaaDoorWA
import Derived.Test.YtpkmpebhlolhaaaDoorXI
namespace Go.Proofs.YtpkmpebhlolhaaaDoor.X
open Go.RowKit
open Go.Proofs.YtpkmpebhlolhaaaDoor.F (hx hx_bd vl vl_snoc bn bn_length bn_append bn_inj bn_get byte_bd hid bn_extract isEmpty_false isEmpty_true str_eq same_eq)
set_option linter.unusedVariables false

theorem Bts.form {e : TypeId} {w : World} {base : Nat} {v : Value} {l : List Int} (h : Bts e w base v l) : ∃ p n c, v = .slice p n c := by
  rcases h with ⟨rfl, rfl⟩ | ⟨g, cap, cur, fz, rfl, _⟩
  · exact ⟨_, _, _, rfl⟩
  · exact ⟨_, _, _, rfl⟩
theorem infoB : (Tryd.prog.info? 5).map (fun i => (i.zero, i.size, i.bytes)) = some (some (.int .u8 0), 1, 1) := by kernel_rfl
theorem grown_below {w w1 w2 : World} {row : Option Nat} (h : Below w.heap.size w w1) (g : w1.grownBy w2 row) : w.grownBy w2 row :=
  ⟨g.os.trans h.os, g.tape.trans h.tape, g.output.trans h.output, Nat.le_trans h.size g.size, fun k hk hr => (g.block k (Nat.lt_of_lt_of_le hk h.size) hr).trans (h.block k hk)⟩
set_option maxRecDepth 100000 in
set_option maxHeartbeats 1600000 in
theorem bitsA_any (base : Nat) (v : Value) (l : List Int) (u : Nat) (hu : u < 65536) (w : World) (hT : Tab w) (hn : l.length ≤ 10000000) (hrow : Bts 5 w base v l) (hb : base ≤ w.heap.size) :
    Calls Tryd.prog 45 #[v, .int .u64 u, .int .i64 16, .bool false, .bool true] w fun e W' => ∃ v', e = .returned (.tuple #[v', .string ⟨#[]⟩]) ∧ Bts 5 W' base v' (l ++ hexT false false u) ∧ w.grownBy W' v.ownBlock := by
  obtain ⟨i0, hi0, hz0, hz1, hz2⟩ := info_parts infoB
  obtain ⟨vp, vn, vc, hvv⟩ := hrow.form
  subst hvv
  have HHX := hid (hxf_hexT hu)
  have hlen4 := hexT_len false false u
  obtain ⟨z, hzv, hzl⟩ : ∃ z : Array Value, (∀ w, (zeroValue 88).run Tryd.prog w = .ok (.agg z) w) ∧ z.toList = List.replicate 65 (.int .u8 0) := ⟨(List.replicate 65 (.int .u8 0)).toArray, (zero_of_info (P := Tryd.prog) (t := 88) (n := 65) (by kernel_rfl)).1, rfl⟩
  go_enter Tryd.func45, Tryd.ntmps45
  go_wp2_with ((refine wpList_alloc_great rfl 88 rfl z hzv ?_))
  refine (power_any _).mono ?_
  rintro e w1 ⟨rfl, rfl⟩
  go_wp2_with fail
  refine (zeros_any _ (hT.below ((Below.refl _ w).alloc (Nat.le_refl _) _) (Nat.le_refl _))).mono ?_
  rintro e w1 ⟨rfl, rfl⟩
  go_wp2_with fail
  have hzs : z.size = 65 := by rw [← Array.length_toList, hzl]; simp
  have hz : (w.alloc (.cells z 88)).ownsRow w.heap.size 88 1 (.slice (some ⟨w.heap.size, 0, none⟩) 65 65) 65 (List.replicate 65 (.int .u8 0)) :=
    ⟨by simp, .inr ⟨w.heap.size, 65, z, rfl, Nat.le_refl _, heap_alloc_new w _, Nat.le_refl _, by decide, hzs, by rw [hzl]; rfl⟩⟩
  go_loopw [1, 13] (fun a i wr => ∃ (k I m : Nat) (ds : List Int) (ys : List Value), a = .int .u64 (m : Int) ∧ i = .int .i64 (I : Int) ∧ I + k = 65 ∧ szU k m ∧ wr.ownsRow w.heap.size 88 1 (.slice (some ⟨w.heap.size, 0, none⟩) 65 65) 65 ys ∧ Hid (ys.drop I = ds.map (Value.int .u8)) ∧ Hid (hxf 8 u = hxf (8 - k) m ++ ds) ∧ Below w.heap.size w wr)
    (fun a _ _ => (intOf a).toNat)
  case atStart => exact ⟨0, 65, u, [], List.replicate 65 (.int .u8 0), rfl, rfl, rfl, .inl ⟨rfl, by omega⟩, hz, by show _ = _; rw [List.drop_eq_nil_of_le (by simp)]; rfl, by show _ = _; simp, (Below.refl _ w).alloc (Nat.le_refl _) _⟩
  case round =>
    obtain ⟨k, I, m, ds, ys, rfl, rfl, hIk, hsz, hr, HD, HH, hB⟩ := hrel
    have hm := szU_lt hsz
    have HI := hid hIk
    have hI1 : 60 ≤ I := by omega
    have hI2 : I ≤ 65 := by omega
    clear hIk hz
    by_cases h16 : 16 ≤ m
    · have hand : bits BinOp.and IntKind.u64 (m : Int) 15 = ((m % 16 : Nat) : Int) := by
        have := u64_and_nat m 15 (by omega) (by omega)
        rw [show m &&& 15 = m % 16 from Nat.and_two_pow_sub_one_eq_mod m 4] at this
        exact this
      obtain ⟨I', rfl⟩ : ∃ I', I = I' + 1 := ⟨I - 1, by omega⟩
      have h16' : (16 : Int) ≤ (m : Int) := by omega
      obtain ⟨y, hy⟩ : ∃ y, wr.cell? ⟨w.heap.size, I', none⟩ = some y := ⟨_, by rw [hr.cellAt I' (by omega), List.getElem?_eq_getElem (by rw [hr.1]; omega)]⟩
      have hfz := hr.frozenAt I'
      have b1 : ((m % 16 : Nat) : Int) < 36 := by omega
      have b2 : (I' : Int) < 65 := by omega
      go_wp2_with fail
      go_roundw
      case rel =>
        have e := digits_at (m % 16) (by omega)
        rw [e]
        have hst := hr.stored I' (.int .u8 (hexd (m % 16)))
        have hsz2 := szU_step hsz h16
        refine ⟨k + 1, I', m / 16, hexd (m % 16) :: ds, ys.set I' (.int .u8 (hexd (m % 16))), by rw [Int.natCast_ediv]; rfl, rfl, by have := HI.out; omega, hsz2.1, hst.1, ?_, ?_, hB.setCell (p := ⟨w.heap.size, I', none⟩) (Nat.le_refl _) _⟩
        · show _ = _
          exact drop_set ys I' _ ds (by rw [hr.1]; omega) HD.out
        · show _ = _
          rw [HH.out, show 8 - k = (8 - (k + 1)) + 1 by omega, hxf, if_neg (by omega), List.append_assoc]; rfl
      case measure => simp [intOf]; omega
    · obtain ⟨I', rfl⟩ : ∃ I', I = I' + 1 := ⟨I - 1, by omega⟩
      have h16' : ¬ (16 : Int) ≤ (m : Int) := by omega
      obtain ⟨y, hy⟩ : ∃ y, wr.cell? ⟨w.heap.size, I', none⟩ = some y := ⟨_, by rw [hr.cellAt I' (by omega), List.getElem?_eq_getElem (by rw [hr.1]; omega)]⟩
      have hfz := hr.frozenAt I'
      have b1 : (m : Int) < 36 := by omega
      have b2 : (I' : Int) < 65 := by omega
      have hst := (hr.stored I' (.int .u8 (hexd m))).1
      have hb3 : Below w.heap.size w (wr.setCell ⟨w.heap.size, I', none⟩ (.int .u8 (hexd m))) := hB.setCell (p := ⟨w.heap.size, I', none⟩) (Nat.le_refl _) _
      have hrow3 := hrow.below hb3
      have hdrop : (ys.set I' (.int .u8 (hexd m))).drop I' = (hxf 8 u).map (Value.int .u8) := by
        rw [drop_set ys I' _ ds (by rw [hr.1]; omega) HD.out, HH.out]
        have : hxf (8 - k) m = [hexd m] := by
          cases h : 8 - k with
          | zero => rfl
          | succ f => rw [hxf, if_pos (by omega)]
        rw [this]; rfl
      rw [HHX.out] at hdrop
      have hlen : (hexT false false u).length = 65 - I' := by
        have := congrArg List.length hdrop
        rw [List.length_drop, List.length_set, hr.1, List.length_map] at this
        omega
      have hnews : ∀ (j : Nat) (x : Value), (bys (hexT false false u))[j]? = some x → (wr.setCell ⟨w.heap.size, I', none⟩ (.int .u8 (hexd m))).cell? ((⟨w.heap.size, I', none⟩ : Addr).add j) = some x := by
        intro j x hj
        have hj1 : j < 65 - I' := by rw [← hlen, ← bys_len]; exact (List.getElem?_eq_some_iff.1 hj).1
        rw [addr_plus, hst.cellAt (I' + j) (by omega), ← hj]
        unfold bys
        rw [← hdrop, List.getElem?_drop]
      have hsb : base ≤ (wr.setCell ⟨w.heap.size, I', none⟩ (.int .u8 (hexd m))).heap.size := Nat.le_trans hb hb3.size
      have hdg := digits_at m (by omega)
      have HX := hid hlen
      clear hdrop hlen
      have hsl := slice65 w.heap.size I' (by omega)
      obtain ⟨L, hL⟩ : ∃ L, L = 65 - I' := ⟨_, rfl⟩
      rw [← hL] at hsl HX
      have hL9 : L ≤ 65 := by omega
      have HN := hid hnews
      have HB3 := hid hb3
      clear hL hnews hst hb3
      go_wp2_with ((at_builtin; refine wpList_append_bts _ rfl _ _ 50 rfl base 5 i0 Tryd.underlying50 hi0 hz0 hz1 hz2 _ l rfl hrow3 ⟨w.heap.size, I', none⟩ L L (hexT false false u) rfl HX.out HN.out (by omega) hsb ?_; intro v' w4 hown4 hgrow4))
      have hb4 := grown_below HB3.out hgrow4
      go_ret2
      exact ⟨v', rfl, hown4, hb4⟩
set_option maxRecDepth 100000 in
set_option maxHeartbeats 1600000 in
theorem appendA_any (base : Nat) (v : Value) (l : List Int) (u : Nat) (hu : u < 65536) (w : World) (hT : Tab w) (hn : l.length ≤ 10000000) (hrow : Bts 5 w base v l) (hb : base ≤ w.heap.size) :
    Calls Tryd.prog 41 #[v, .int .u64 u, .int .i64 16] w fun e W' => ∃ v', e = .returned v' ∧ Bts 5 W' base v' (l ++ hexT false false u) ∧ w.grownBy W' v.ownBlock := by
  obtain ⟨vp, vn, vc, hvv⟩ := hrow.form
  subst hvv
  go_enter Tryd.func41, Tryd.ntmps41
  go_wp2_with fail
  refine (bitsA_any base _ l u hu w hT hn hrow hb).mono ?_
  rintro e w1 ⟨v', rfl, h1, h2⟩
  go_wp2
  go_ret
  exact ⟨v', rfl, h1, h2⟩
set_option maxRecDepth 100000 in
set_option maxHeartbeats 1600000 in
theorem appendU_any (base : Nat) (v : Value) (l : List Int) (u : Nat) (hu : u < 65536) (w : World) (hT : Tab w) (hn : l.length ≤ 10000000) (hrow : Bts 5 w base v l) (hb : base ≤ w.heap.size) :
    Calls Tryd.prog 32 #[v, .int .u64 u, .int .i64 16] w fun e W' => ∃ v', e = .returned v' ∧ Bts 5 W' base v' (l ++ hexT false false u) ∧ w.grownBy W' v.ownBlock := by
  obtain ⟨vp, vn, vc, hvv⟩ := hrow.form
  subst hvv
  go_enter Tryd.func32, Tryd.ntmps32
  go_wp2_with fail
  refine (appendA_any base _ l u hu w hT hn hrow hb).mono ?_
  rintro e w1 ⟨v', rfl, h1, h2⟩
  go_wp2
  go_ret
  exact ⟨v', rfl, h1, h2⟩
/-! ### Pieces told -/
/-- The pieces from f on, up to i. -/
def tl (a : List Nat) (f i : Nat) : List Int := joinB 58 (((a.take i).drop f).map (hexT false false))
theorem tl_nil (a : List Nat) (f : Nat) : tl a f f = [] := by
  unfold tl
  rw [List.drop_eq_nil_of_le (by rw [List.length_take]; omega)]; rfl
theorem tl_step {a : List Nat} {f i : Nat} (h8 : a.length = 8) (hf : f ≤ i) (hi : i < 8) : (((a.take (i + 1)).drop f).map (hexT false false)) = (((a.take i).drop f).map (hexT false false)) ++ [hexT false false (a[i]?.getD 0)] := by
  rw [List.take_add_one, List.getElem?_eq_getElem (by omega)]
  rw [List.drop_append_of_le_length (by rw [List.length_take]; omega), List.map_append]
  rfl
theorem tl_first {a : List Nat} {f : Nat} (h8 : a.length = 8) (hi : f < 8) : tl a f (f + 1) = hexT false false (a[f]?.getD 0) := by
  have h := tl_step h8 (Nat.le_refl f) hi
  unfold tl
  rw [h, List.drop_eq_nil_of_le (by rw [List.length_take]; omega)]; rfl
theorem tl_next {a : List Nat} {f i : Nat} (h8 : a.length = 8) (hf : f < i) (hi : i < 8) : tl a f (i + 1) = tl a f i ++ [58] ++ hexT false false (a[i]?.getD 0) := by
  have h := tl_step h8 (Nat.le_of_lt hf) hi
  unfold tl
  rw [h, join_snoc, if_neg]
  intro e
  have := congrArg List.length e
  simp at this
  omega
theorem tl_len {a : List Nat} (h8 : a.length = 8) (f i : Nat) : (tl a f i).length ≤ 40 := by
  unfold tl
  have h := (join_len ((a.take i).drop f)).1
  rw [List.length_drop, List.length_take] at h
  omega
theorem Tab.at {w w' : World} {base : Nat} (h : Tab w) (hb : Below base w w') (hg : 5 < base) : Tab w' := by
  unfold Tab at *
  exact (hb.cell (p := ⟨5, 15, none⟩) hg).trans h
theorem box_in (w : World) (cs : Array Value) (t : TypeId) : (w.alloc (.cells cs t)).heap[w.heap.size]? = some (.cells cs t (0, 0)) := heap_alloc_new _ _
set_option maxRecDepth 100000 in
set_option maxHeartbeats 8000000 in
theorem tell_lit (a0 a1 a2 a3 a4 a5 a6 a7 : Nat) (hs : Small [a0, a1, a2, a3, a4, a5, a6, a7]) (base : Nat) (v : Value) (l : List Int) (f n : Nat) (hf : f ≤ n) (hn8 : n ≤ 8) (w : World) (hT : Tab w) (hg : 5 < base) (hl : l.length ≤ 1000000) (hrow : Bts 5 w base v l) (hb : base ≤ w.heap.size) :
    Calls Tryd.prog 20 #[v, .agg #[.int .u16 a0, .int .u16 a1, .int .u16 a2, .int .u16 a3, .int .u16 a4, .int .u16 a5, .int .u16 a6, .int .u16 a7], .int .i64 (f : Int), .int .i64 (n : Int)] w fun e W' => ∃ v', e = .returned v' ∧ Bts 5 W' base v' (l ++ tl [a0, a1, a2, a3, a4, a5, a6, a7] f n) ∧ Below base w W' := by
  obtain ⟨vp, vn, vc, hvv⟩ := hrow.form
  subst hvv
  obtain ⟨i0, hi0, hz0, hz1, hz2⟩ := info_parts infoB
  have HB0 : Hid (Below w.heap.size w (w.alloc (.cells #[.int .u16 a0, .int .u16 a1, .int .u16 a2, .int .u16 a3, .int .u16 a4, .int .u16 a5, .int .u16 a6, .int .u16 a7] 23))) := (Below.refl _ w).alloc (Nat.le_refl _) _
  have HA0 : Hid ((w.alloc (.cells #[.int .u16 a0, .int .u16 a1, .int .u16 a2, .int .u16 a3, .int .u16 a4, .int .u16 a5, .int .u16 a6, .int .u16 a7] 23)).heap[w.heap.size]? = some (.cells (u16s [a0, a1, a2, a3, a4, a5, a6, a7]).toArray 23 (0, 0))) := box_in w _ _
  have HL8 : Hid ([a0, a1, a2, a3, a4, a5, a6, a7].length = 8) := rfl
  have HSM := hid hs
  have HT0 := hid (hT.below HB0.out (Nat.le_refl _))
  have HR0 := hid (hrow.below HB0.out)
  have HBB := hid (HB0.out.mono hb)
  obtain ⟨a, ha⟩ : ∃ a, [a0, a1, a2, a3, a4, a5, a6, a7] = a := ⟨_, rfl⟩
  rw [ha] at HA0 HL8 HSM ⊢
  have HSV : Hid (∀ j, j < 8 → a[j]?.getD 0 < 65536) := fun j hj => by
    rw [List.getElem?_eq_getElem (by rw [HL8.out]; exact hj)]
    exact HSM.out _ (List.getElem_mem _)
  have HNIL := hid (tl_nil a f)
  have HLEN := hid (tl_len HL8.out f)
  clear hs hT hrow
  go_enter Tryd.func20, Tryd.ntmps20
  go_wp2_with fail
  obtain ⟨w1, hw1⟩ : ∃ w1, w.alloc (.cells #[.int .u16 a0, .int .u16 a1, .int .u16 a2, .int .u16 a3, .int .u16 a4, .int .u16 a5, .int .u16 a6, .int .u16 a7] 23) = w1 := ⟨_, rfl⟩
  rw [hw1] at HB0 HA0 HT0 HR0 HBB ⊢
  obtain ⟨arg, harg⟩ : ∃ v : Value, Value.agg #[.int .u16 a0, .int .u16 a1, .int .u16 a2, .int .u16 a3, .int .u16 a4, .int .u16 a5, .int .u16 a6, .int .u16 a7] = v := ⟨_, rfl⟩
  rw [harg]
  clear hw1 ha harg HB0
  go_loopw [0, 9] (fun v0 v9 wr => ∃ (i n0 c0 : Nat) (p0 : Option Addr), f ≤ i ∧ i ≤ n ∧ v0 = .slice p0 n0 c0 ∧ v9 = .int .i64 (i : Int) ∧ Hid (Bts 5 wr base (.slice p0 n0 c0) (l ++ tl a f i)) ∧ Hid (wr.heap[w.heap.size]? = some (.cells (u16s a).toArray 23 (0, 0))) ∧ Hid (Tab wr) ∧ Hid (Below base w wr)) (fun _ v9 _ => n - (intOf v9).toNat)
  case atStart => exact ⟨f, vn, vc, vp, Nat.le_refl _, hf, rfl, rfl, by show Bts _ _ _ _ _; rw [HNIL.out, List.append_nil]; exact HR0.out, HA0, HT0, HBB⟩
  case round =>
    obtain ⟨i, n0, c0, p0, hfi, hin, rfl, rfl, HR, HA, HT, HB⟩ := hrel
    have hsb : base ≤ wr.heap.size := Nat.le_trans hb HB.out.size
    by_cases hlt : i < n
    · have hltz : (i : Int) < (n : Int) := by omega
      have hi8 : i < 8 := by omega
      have hi8z : (i : Int) < 8 := by omega
      have hsrc := cell_row HA.out (j := i) (by rw [HL8.out]; exact hi8)
      have hv := HSV.out i hi8
      have HNX := hid (fun h => tl_next (a := a) (f := f) (i := i) HL8.out h hi8)
      have HFI := hid (fun (h : f = i) => show tl a f (i + 1) = hexT false false (a[i]?.getD 0) by subst h; exact tl_first HL8.out hi8)
      have hll := HLEN.out i
      obtain ⟨x, hx1⟩ : ∃ x, a[i]?.getD 0 = x := ⟨_, rfl⟩
      rw [hx1] at hsrc hv HNX HFI
      have hvz : (x : Int) < 65536 := by omega
      have hzA : w.heap.size < wr.heap.size := (Array.getElem?_eq_some_iff.1 HA.out).1
      have HXX := hid hx1
      clear hx1
      by_cases hfr : f < i
      · have hfz : (f : Int) < (i : Int) := by omega
        have HN2 := hid (HNX.out hfr)
        have HBu : Hid (Below wr.heap.size wr (wr.alloc (.cells #[.int .u8 58] 5))) := (Below.refl _ wr).alloc (Nat.le_refl _) _
        have HRu := hid (HR.out.below HBu.out)
        have HAu : Hid ((wr.alloc (.cells #[.int .u8 58] 5)).heap[w.heap.size]? = some (.cells (u16s a).toArray 23 (0, 0))) := (HBu.out.block _ hzA).trans HA.out
        have HNu : Hid (∀ j u, (bys [58])[j]? = some u → (wr.alloc (.cells #[.int .u8 58] 5)).cell? ((⟨wr.heap.size, 0, none⟩ : Addr).add j) = some u) := by
          intro j u hj
          match j, hj with
          | 0, hj =>
            rw [addr_plus]
            have e : (bys [58])[0]? = some (.int .u8 58) := rfl
            rw [e] at hj
            rw [← hj]
            have := box_in wr #[.int .u8 58] 5
            simp only [World.cell?, this]
            rfl
          | j + 1, hj => simp [bys] at hj
        have hsu : base ≤ (wr.alloc (.cells #[.int .u8 58] 5)).heap.size := Nat.le_trans hsb HBu.out.size
        have hlb : (l ++ tl a f i).length + 1 ≤ 2000000 := by rw [List.length_append]; omega
        have HLB := hid hlb
        clear HNX HFI hlb
        go_wp2_with ((at_builtin; refine wpList_append_bts _ rfl _ _ 50 rfl base 5 i0 Tryd.underlying50 hi0 hz0 hz1 hz2 _ (l ++ tl a f i) rfl HRu.out ⟨wr.heap.size, 0, none⟩ 1 1 [58] rfl rfl HNu.out (by have := HLB.out; omega) hsu ?_; intro v' w4 hown4 hgrow4; obtain ⟨p4, n4, c4, rfl⟩ := hown4.form; have hA4 := (hgrow4.block _ (Nat.lt_of_lt_of_le hzA HBu.out.size) (HRu.out.apart HAu.out (by decide))).trans HAu.out; have hsrc4 := cell_row hA4 (j := i) (by rw [HL8.out]; exact hi8); rw [HXX.out] at hsrc4))
        have HB4 := hid ((HBu.out.mono hsb).grown hgrow4 hsu (fun k hk => (HRu.out.lt k hk).1))
        have HA4 := hid hA4
        have hs4 : base ≤ w4.heap.size := Nat.le_trans hsu hgrow4.size
        have hl4 : (l ++ tl a f i ++ [58]).length ≤ 10000000 := by have := HLB.out; rw [List.length_append]; simp only [List.length_cons, List.length_nil]; omega
        have HAP := hid (appendU_any base _ (l ++ tl a f i ++ [58]) x hv w4 (HT.out.at HB4.out hg) hl4 hown4 hs4)
        have HO4 := hid hown4
        clear hA4 hgrow4 hown4 hl4 HRu HAu HNu HBu hsrc HR HA
        refine HAP.out.mono ?_
        rintro e w5 ⟨v5, rfl, h5, g5⟩
        obtain ⟨p5, n5, c5, rfl⟩ := h5.form
        have HA5 : Hid (w5.heap[w.heap.size]? = some (.cells (u16s a).toArray 23 (0, 0))) := (g5.block _ (Array.getElem?_eq_some_iff.1 HA4.out).1 (HO4.out.apart HA4.out (by decide))).trans HA4.out
        have HB5 := hid (HB4.out.grown g5 hs4 (fun k hk => (HO4.out.lt k hk).1))
        have HT5 := hid (HT.out.at HB5.out hg)
        have HR5 : Hid (Bts 5 w5 base (.slice p5 n5 c5) (l ++ tl a f (i + 1))) := by
          show Bts _ _ _ _ _
          rw [HN2.out]
          have e : l ++ (tl a f i ++ [58] ++ hexT false false x) = l ++ tl a f i ++ [58] ++ hexT false false x := by simp
          rw [e]; exact h5
        have HB6 := hid (HB.out.trans HB5.out)
        clear HB5 HB4 HA4 HO4 HAP h5 g5 HN2 HT HB hsrc4
        go_wp2_with fail
        go_roundw
        case rel => exact ⟨i + 1, n5, c5, p5, by omega, by omega, rfl, by go_num, HR5, HA5, HT5, HB6⟩
        case measure => simp [intOf]; omega
      · have hfe : f = i := by omega
        have hfz : ¬ (f : Int) < (i : Int) := by omega
        have HN2 := hid (HFI.out hfe)
        have HNL : Hid (tl a f i = []) := by show _ = _; rw [← hfe]; exact HNIL.out
        have HAP := hid (appendU_any base _ (l ++ tl a f i) x hv wr HT.out (by rw [List.length_append]; omega) HR.out hsb)
        clear HNX HFI hfe
        go_wp2_with fail
        refine HAP.out.mono ?_
        rintro e w5 ⟨v5, rfl, h5, g5⟩
        obtain ⟨p5, n5, c5, rfl⟩ := h5.form
        have HA5 : Hid (w5.heap[w.heap.size]? = some (.cells (u16s a).toArray 23 (0, 0))) := (g5.block _ hzA (HR.out.apart HA.out (by decide))).trans HA.out
        have HB5 := hid ((Below.refl base wr).grown g5 hsb (fun k hk => (HR.out.lt k hk).1))
        have HT5 := hid (HT.out.at HB5.out hg)
        have HR5 : Hid (Bts 5 w5 base (.slice p5 n5 c5) (l ++ tl a f (i + 1))) := by
          show Bts _ _ _ _ _
          rw [HN2.out]
          rw [HNL.out, List.append_nil] at h5
          exact h5
        have HB6 := hid (HB.out.trans HB5.out)
        clear HB5 HAP h5 g5 HN2 HNL HT HB hsrc HR HA
        go_wp2_with fail
        go_roundw
        case rel => exact ⟨i + 1, n5, c5, p5, by omega, by omega, rfl, by go_num, HR5, HA5, HT5, HB6⟩
        case measure => simp [intOf]; omega
    · have hin2 : i = n := by omega
      have hltz : ¬ (i : Int) < (n : Int) := by omega
      have HR5 : Hid (Bts 5 wr base (.slice p0 n0 c0) (l ++ tl a f n)) := by rw [← hin2]; exact HR
      clear HR hin2
      go_wp2
      go_ret
      exact ⟨_, rfl, HR5.out, HB.out⟩
theorem lit8 {a : List Nat} (h : a.length = 8) : ∃ a0 a1 a2 a3 a4 a5 a6 a7, a = [a0, a1, a2, a3, a4, a5, a6, a7] := by
  match a, h with
  | [a0, a1, a2, a3, a4, a5, a6, a7], _ => exact ⟨a0, a1, a2, a3, a4, a5, a6, a7, rfl⟩
theorem tell_any (a : List Nat) (h8 : a.length = 8) (hs : Small a) (base : Nat) (v : Value) (l : List Int) (f n : Nat) (hf : f ≤ n) (hn8 : n ≤ 8) (w : World) (hT : Tab w) (hg : 5 < base) (hl : l.length ≤ 1000000) (hrow : Bts 5 w base v l) (hb : base ≤ w.heap.size) :
    Calls Tryd.prog 20 #[v, .agg (u16s a).toArray, .int .i64 (f : Int), .int .i64 (n : Int)] w fun e W' => ∃ v', e = .returned v' ∧ Bts 5 W' base v' (l ++ tl a f n) ∧ Below base w W' := by
  obtain ⟨a0, a1, a2, a3, a4, a5, a6, a7, rfl⟩ := lit8 h8
  exact tell_lit a0 a1 a2 a3 a4 a5 a6 a7 hs base v l f n hf hn8 w hT hg hl hrow hb
end Go.Proofs.YtpkmpebhlolhaaaDoor.X
