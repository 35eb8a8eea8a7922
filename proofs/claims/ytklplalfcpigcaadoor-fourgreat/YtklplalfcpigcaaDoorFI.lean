/- FourGreat's walk over what it wants of the program. (Stage 10; written by tools/r10/fi.py.) -/
import Derived.Test.YtklplalfcpigcaaDoorFD
import Derived.Laws.BitsLemmas
namespace Go.Proofs.YtklplalfcpigcaaDoor.F
open Go.RowKit
set_option linter.unusedVariables false

def nv (ns : List Nat) (i : Nat) : Nat := ns[i]?.getD 0
def gr (k : Nat) (ns : List Nat) : Nat → Bool
  | 0 => false
  | i + 1 => gr k ns i || (if i + 1 < k then decide (255 < nv ns i) else decide (256 ^ (5 - k) ≤ nv ns i))
def su (k : Nat) (ns : List Nat) : Nat → Nat
  | 0 => 0
  | i + 1 => if i + 1 < k then su k ns i + nv ns i % 256 * 256 ^ (3 - i) else (su k ns i + nv ns i) % 18446744073709551616
def preT (ns : List Nat) : Nat → List Int
  | 0 => []
  | i + 1 => (if 0 < i then preT ns i ++ [46] else []) ++ wr 10 (nv ns i)
theorem addr_add0 (g j : Nat) : ((⟨g, 0, none⟩ : Addr).add j) = ⟨g, j, none⟩ := by
  simp [Addr.add]; exact fun h => h.symm
theorem cell_new (w : World) (t : TypeId) (l : List Value) (j : Nat) (u : Value) (h : l[j]? = some u) {W : World} (hB : Below (w.heap.size + 1) (w.alloc (.cells l.toArray t)) W) : W.cell? ⟨w.heap.size, j, none⟩ = some u := by
  have h1 := news_one w t l j u h
  rw [addr_add0] at h1
  exact (hB.cell (p := ⟨w.heap.size, j, none⟩) (Nat.lt_succ_self _)).trans h1
theorem wr_size {t : ByteArray} {n : Nat} (h : bn t = wrt 2 n) : t.size ≤ 65 := by
  have := wr_len 10 n
  have e : wrt 2 n = wr 10 n := rfl
  rw [← e, ← h, bn_length] at this
  exact this
theorem pre_join1 (n0 : Nat) : preT [n0] 1 = join (wrts (tens [n0])) := by
  simp [preT, nv, tens, wrts, wrt, join]
theorem gr_all1 (n0 : Nat) : gr 1 [n0] 1 = grt 1 [n0] := by
  simp [gr, nv, grt]
theorem su_all1 (n0 : Nat) (h : grt 1 [n0] = false) : su 1 [n0] 1 = smN 0 [n0] ∧ smN 0 [n0] < 4294967296 := by
  simp [grt] at h
  simp [su, nv, smN]
  omega
theorem pre_join2 (n0 n1 : Nat) : preT [n0, n1] 2 = join (wrts (tens [n0, n1])) := by
  simp [preT, nv, tens, wrts, wrt, join]
theorem gr_all2 (n0 n1 : Nat) : gr 2 [n0, n1] 2 = grt 2 [n0, n1] := by
  simp [gr, nv, grt]
theorem su_all2 (n0 n1 : Nat) (h : grt 2 [n0, n1] = false) : su 2 [n0, n1] 2 = smN 0 [n0, n1] ∧ smN 0 [n0, n1] < 4294967296 := by
  simp [grt] at h
  simp [su, nv, smN]
  omega
theorem pre_join3 (n0 n1 n2 : Nat) : preT [n0, n1, n2] 3 = join (wrts (tens [n0, n1, n2])) := by
  simp [preT, nv, tens, wrts, wrt, join]
theorem gr_all3 (n0 n1 n2 : Nat) : gr 3 [n0, n1, n2] 3 = grt 3 [n0, n1, n2] := by
  simp [gr, nv, grt, Bool.or_assoc]
theorem su_all3 (n0 n1 n2 : Nat) (h : grt 3 [n0, n1, n2] = false) : su 3 [n0, n1, n2] 3 = smN 0 [n0, n1, n2] ∧ smN 0 [n0, n1, n2] < 4294967296 := by
  simp [grt] at h
  simp [su, nv, smN]
  omega
theorem pre_join4 (n0 n1 n2 n3 : Nat) : preT [n0, n1, n2, n3] 4 = join (wrts (tens [n0, n1, n2, n3])) := by
  simp [preT, nv, tens, wrts, wrt, join]
theorem gr_all4 (n0 n1 n2 n3 : Nat) : gr 4 [n0, n1, n2, n3] 4 = grt 4 [n0, n1, n2, n3] := by
  simp [gr, nv, grt, Bool.or_assoc]
theorem su_all4 (n0 n1 n2 n3 : Nat) (h : grt 4 [n0, n1, n2, n3] = false) : su 4 [n0, n1, n2, n3] 4 = smN 0 [n0, n1, n2, n3] ∧ smN 0 [n0, n1, n2, n3] < 4294967296 := by
  simp [grt] at h
  simp [su, nv, smN]
  omega
theorem su_st10 (n0 : Nat) : su 1 [n0] 1 = (su 1 [n0] 0 + n0) % 18446744073709551616 := by
  simp [su, nv]
theorem gr_st10 (n0 : Nat) : gr 1 [n0] 1 = (gr 1 [n0] 0 || decide (4294967296 ≤ n0)) := by
  simp [gr, nv]
theorem pr_st10 (n0 : Nat) : preT [n0] 1 = wr 10 n0 := by
  simp [preT, nv]
theorem su_st20 (n0 n1 : Nat) : su 2 [n0, n1] 1 = su 2 [n0, n1] 0 + n0 % 256 * 16777216 := by
  simp [su, nv]
theorem gr_st20 (n0 n1 : Nat) : gr 2 [n0, n1] 1 = (gr 2 [n0, n1] 0 || decide (255 < n0)) := by
  simp [gr, nv]
theorem pr_st20 (n0 n1 : Nat) : preT [n0, n1] 1 = wr 10 n0 := by
  simp [preT, nv]
theorem su_st21 (n0 n1 : Nat) : su 2 [n0, n1] 2 = (su 2 [n0, n1] 1 + n1) % 18446744073709551616 := by
  simp [su, nv]
theorem gr_st21 (n0 n1 : Nat) : gr 2 [n0, n1] 2 = (gr 2 [n0, n1] 1 || decide (16777216 ≤ n1)) := by
  simp [gr, nv]
theorem pr_st21 (n0 n1 : Nat) : preT [n0, n1] 2 = preT [n0, n1] 1 ++ [46] ++ wr 10 n1 := by
  simp [preT, nv]
theorem su_st30 (n0 n1 n2 : Nat) : su 3 [n0, n1, n2] 1 = su 3 [n0, n1, n2] 0 + n0 % 256 * 16777216 := by
  simp [su, nv]
theorem gr_st30 (n0 n1 n2 : Nat) : gr 3 [n0, n1, n2] 1 = (gr 3 [n0, n1, n2] 0 || decide (255 < n0)) := by
  simp [gr, nv]
theorem pr_st30 (n0 n1 n2 : Nat) : preT [n0, n1, n2] 1 = wr 10 n0 := by
  simp [preT, nv]
theorem su_st31 (n0 n1 n2 : Nat) : su 3 [n0, n1, n2] 2 = su 3 [n0, n1, n2] 1 + n1 % 256 * 65536 := by
  simp [su, nv]
theorem gr_st31 (n0 n1 n2 : Nat) : gr 3 [n0, n1, n2] 2 = (gr 3 [n0, n1, n2] 1 || decide (255 < n1)) := by
  simp [gr, nv]
theorem pr_st31 (n0 n1 n2 : Nat) : preT [n0, n1, n2] 2 = preT [n0, n1, n2] 1 ++ [46] ++ wr 10 n1 := by
  simp [preT, nv]
theorem su_st32 (n0 n1 n2 : Nat) : su 3 [n0, n1, n2] 3 = (su 3 [n0, n1, n2] 2 + n2) % 18446744073709551616 := by
  simp [su, nv]
theorem gr_st32 (n0 n1 n2 : Nat) : gr 3 [n0, n1, n2] 3 = (gr 3 [n0, n1, n2] 2 || decide (65536 ≤ n2)) := by
  simp [gr, nv]
theorem pr_st32 (n0 n1 n2 : Nat) : preT [n0, n1, n2] 3 = preT [n0, n1, n2] 2 ++ [46] ++ wr 10 n2 := by
  simp [preT, nv]
theorem su_st40 (n0 n1 n2 n3 : Nat) : su 4 [n0, n1, n2, n3] 1 = su 4 [n0, n1, n2, n3] 0 + n0 % 256 * 16777216 := by
  simp [su, nv]
theorem gr_st40 (n0 n1 n2 n3 : Nat) : gr 4 [n0, n1, n2, n3] 1 = (gr 4 [n0, n1, n2, n3] 0 || decide (255 < n0)) := by
  simp [gr, nv]
theorem pr_st40 (n0 n1 n2 n3 : Nat) : preT [n0, n1, n2, n3] 1 = wr 10 n0 := by
  simp [preT, nv]
theorem su_st41 (n0 n1 n2 n3 : Nat) : su 4 [n0, n1, n2, n3] 2 = su 4 [n0, n1, n2, n3] 1 + n1 % 256 * 65536 := by
  simp [su, nv]
theorem gr_st41 (n0 n1 n2 n3 : Nat) : gr 4 [n0, n1, n2, n3] 2 = (gr 4 [n0, n1, n2, n3] 1 || decide (255 < n1)) := by
  simp [gr, nv]
theorem pr_st41 (n0 n1 n2 n3 : Nat) : preT [n0, n1, n2, n3] 2 = preT [n0, n1, n2, n3] 1 ++ [46] ++ wr 10 n1 := by
  simp [preT, nv]
theorem su_st42 (n0 n1 n2 n3 : Nat) : su 4 [n0, n1, n2, n3] 3 = su 4 [n0, n1, n2, n3] 2 + n2 % 256 * 256 := by
  simp [su, nv]
theorem gr_st42 (n0 n1 n2 n3 : Nat) : gr 4 [n0, n1, n2, n3] 3 = (gr 4 [n0, n1, n2, n3] 2 || decide (255 < n2)) := by
  simp [gr, nv]
theorem pr_st42 (n0 n1 n2 n3 : Nat) : preT [n0, n1, n2, n3] 3 = preT [n0, n1, n2, n3] 2 ++ [46] ++ wr 10 n2 := by
  simp [preT, nv]
theorem su_st43 (n0 n1 n2 n3 : Nat) : su 4 [n0, n1, n2, n3] 4 = (su 4 [n0, n1, n2, n3] 3 + n3) % 18446744073709551616 := by
  simp [su, nv]
theorem gr_st43 (n0 n1 n2 n3 : Nat) : gr 4 [n0, n1, n2, n3] 4 = (gr 4 [n0, n1, n2, n3] 3 || decide (256 ≤ n3)) := by
  simp [gr, nv]
theorem pr_st43 (n0 n1 n2 n3 : Nat) : preT [n0, n1, n2, n3] 4 = preT [n0, n1, n2, n3] 3 ++ [46] ++ wr 10 n3 := by
  simp [preT, nv]
set_option maxRecDepth 100000 in
set_option maxHeartbeats 8000000 in
theorem great_walk1 {G : World → Prop} (C : Ctr G) (n0 n1 n2 n3 : Nat) (d : Int) (w : World) (hG : G w) (h0 : n0 < 18446744073709551616) (h1 : n1 < 18446744073709551616) (h2 : n2 < 18446744073709551616) (h3 : n3 < 18446744073709551616) (hd : Int.tmod d 4 = 0) (hd0 : 0 ≤ d) (hd1 : d ≤ 255) :
    Calls Tryd.prog 6 #[.agg #[.int .u64 n0, .int .u64 n1, .int .u64 n2, .int .u64 n3], .int .u8 d] w fun e W' => e = .returned (.bool true) ∧ Below w.heap.size w W' := by
  have HK : Hid (∀ W, Below w.heap.size w W → G W) := fun W h => C.keep w W hG h
  have HW : Hid (∀ W, Below w.heap.size w W → _) := fun W h => works_any C W (HK.out W h)
  have HPR : Hid (∀ (s : ByteArray) (x : Nat) (y : Int) W, s.size ≤ 1000 → prs (bn s) = (x, y) → Below w.heap.size w W → _) := fun s x y W hs hh hg => C.cpIs (s := s) (x := x) (y := y) (by omega) hh W (HK.out W hg)
  have HCE : Hid (∀ W, Below (w.heap.size + 1) (w.alloc (.cells #[.int .u64 n0, .int .u64 n1, .int .u64 n2, .int .u64 n3] 38)) W → ∀ (j : Nat) (u : Value), ([.int .u64 n0, .int .u64 n1, .int .u64 n2, .int .u64 n3] : List Value)[j]? = some u → W.cell? ⟨w.heap.size, j, none⟩ = some u) := fun W h j u hu => cell_new w _ _ j u hu h
  have HPT := hid (prs_tens (ns := [n0]) (by simp) (by simp) (by simp; omega))
  rw [← pre_join1] at HPT
  have HGA := hid (gr_all1 n0)
  have HSA := hid (su_all1 n0)
  have HB0 : Hid (Below w.heap.size w (w.alloc (.cells #[.int .u64 n0, .int .u64 n1, .int .u64 n2, .int .u64 n3] 38))) := (Below.refl _ _).alloc (Nat.le_refl _) _
  have HZ : Hid ((w.alloc (.cells #[.int .u64 n0, .int .u64 n1, .int .u64 n2, .int .u64 n3] 38)).heap.size = w.heap.size + 1) := by show _ = _; simp
  have HW0 := hid (fun W => written_any n0 h0 2 (by decide) W)
  clear C hG
  go_enter Tryd.func6, Tryd.ntmps6
  go_wp2_with fail
  obtain ⟨w1, hw1⟩ : ∃ w1, w.alloc (.cells #[.int .u64 n0, .int .u64 n1, .int .u64 n2, .int .u64 n3] 38) = w1 := ⟨_, rfl⟩
  rw [hw1] at HCE HB0 HZ ⊢
  clear hw1
  go_loopw [6, 7, 8, 9] (fun v6 v7 v8 v9 wr => ∃ (i : Nat) (T : ByteArray) (g : Bool) (u : Nat), i ≤ 1 ∧ v6 = .string T ∧ v7 = .bool g ∧ v8 = .int .u64 u ∧ v9 = .int .i64 i ∧ T.size ≤ 70 * i ∧ (i < 1 → u ≤ i * 4278190080) ∧ Hid (bn T = preT [n0] i) ∧ Hid (gr 1 [n0] i = g) ∧ Hid (su 1 [n0] i = u) ∧ Hid (Below (w.heap.size + 1) w1 wr)) (fun _ _ _ v9 _ => 1 - (intOf v9).toNat)
  case atStart => exact ⟨0, ⟨#[]⟩, false, 0, Nat.zero_le _, rfl, rfl, rfl, rfl, Nat.le_refl _, by omega, rfl, rfl, rfl, Below.refl _ _⟩
  case round =>
    obtain ⟨i, T, g, u, hi, rfl, rfl, rfl, rfl, hT, hu, HT, HG, HU, HB⟩ := hrel
    have zj : w.heap.size + 1 ≤ wr.heap.size := by rw [← HZ.out]; exact HB.out.size
    obtain rfl | rfl : i = 0 ∨ i = 1 := by omega
    · have hc := HCE.out _ HB.out 0 (.int .u64 n0) rfl
      have hcx : ∀ W, Below (w.heap.size + 1) w1 W → W.cell? ⟨w.heap.size, 0, none⟩ = some (.int .u64 n0) := fun W h => HCE.out W h 0 (.int .u64 n0) rfl
      have HCX := hid hcx
      clear hcx
      have huu := hu (by omega)
      clear hu
      have HG2 : Hid (gr 1 [n0] 1 = (g || decide (4294967296 ≤ n0))) := by show _ = _; rw [gr_st10, HG.out]
      have HU2 : Hid (su 1 [n0] 1 = (u + n0) % 18446744073709551616) := by show _ = _; rw [su_st10, HU.out]
      obtain ⟨f, hf⟩ : ∃ f, decide (4294967296 ≤ n0) = f := ⟨_, rfl⟩
      rw [hf] at HG2
      have hf2 : decide ((4294967296 : Int) ≤ (n0 : Int)) = f := by rw [← hf]; exact decide_eq_decide.2 ⟨fun h => by omega, fun h => by omega⟩
      clear hf
      obtain ⟨u2, hu2⟩ : ∃ u2, (u + n0) % 18446744073709551616 = u2 := ⟨_, rfl⟩
      have hwr : IntKind.u64.wrap ((u : Int) + (n0 : Int)) = (u2 : Int) := by simp [IntKind.wrap, IntKind.bits, IntKind.signed]; omega
      rw [hu2] at HU2
      clear hu2
      have hT0 : T.size = 0 := by omega
      have HP2 : Hid (∀ t, bn t = wrt 2 n0 → bn (T ++ t) = preT [n0] 1) := fun t ht => by rw [pr_st10, bn_append, HT.out, ht]; rfl
      go_wp2_with fail
      refine (HW0.out _).mono ?_
      rintro e w2 ⟨⟨t, rfl, ht⟩, B2⟩
      have hts := wr_size ht
      have HP3 := hid (HP2.out t ht)
      have HB2 := hid (HB.out.trans (B2.mono zj))
      have hc2 := HCX.out _ HB2.out
      clear ht B2 HP2 HCX hc
      cases g with
      | true =>
        go_wp2_with fail
        go_roundw
        case rel => exact ⟨1, T ++ t, true, u2, by omega, rfl, rfl, by go_num, rfl, by simp [ByteArray.size_append]; omega, by omega, HP3, by show _ = _; rw [HG2.out]; rfl, HU2, HB2⟩
        case measure => simp [intOf]
      | false =>
        go_wp2_with fail
        go_roundw
        case rel => exact ⟨1, T ++ t, f, u2, by omega, rfl, rfl, by go_num, rfl, by simp [ByteArray.size_append]; omega, by omega, HP3, by show _ = _; rw [HG2.out]; rfl, HU2, HB2⟩
        case measure => simp [intOf]
    · have HBW := hid (HB0.out.trans (HB.out.mono (Nat.le_succ _)))
      have HGQ : Hid (grt 1 [n0] = g) := by show _ = _; rw [← HG.out]; exact HGA.out.symm
      rw [← HT.out] at HPT
      cases g with
      | true =>
        have HP := hid (HPR.out T 0 4 wr (by omega) (HPT.out.trans (if_pos HGQ.out)) HBW.out)
        clear HPT HPR HG HU HT
        go_wp2_with fail
        refine HP.out.mono ?_
        rintro e w2 ⟨rfl, B2⟩
        have HB2 := hid (HBW.out.trans (B2.mono HBW.out.size))
        clear B2 HP
        go_wp2_with (go_at_call 7; refine (HW.out _ HB2.out).mono ?_; rintro e w3 ⟨rfl, B3⟩; have HB3 := hid (HB2.out.trans (B3.mono HB2.out.size)); clear B3)
        go_ret
        exact ⟨rfl, HB3.out⟩
      | false =>
        obtain ⟨hs1, hs2⟩ := HSA.out HGQ.out
        have hsu := HU.out
        rw [hs1] at hsu
        have HP := hid (HPR.out T _ 0 wr (by omega) (HPT.out.trans (if_neg (by have h9 : grt 1 [n0] = false := HGQ.out; intro h8; rw [show grt (List.length [n0]) [n0] = grt 1 [n0] from rfl, h9] at h8; cases h8))) HBW.out)
        rw [hsu] at HP hs2
        clear HPT HPR HG HU HT hs1 hsu HSA HGA HGQ hu
        go_wp2_with fail
        refine HP.out.mono ?_
        rintro e w2 ⟨rfl, B2⟩
        have HB2 := hid (HBW.out.trans (B2.mono HBW.out.size))
        clear B2 HP
        go_wp2_with (go_at_call 7; refine (HW.out _ HB2.out).mono ?_; rintro e w3 ⟨rfl, B3⟩; have HB3 := hid (HB2.out.trans (B3.mono HB2.out.size)); clear B3)
        go_ret
        exact ⟨rfl, HB3.out⟩
set_option maxRecDepth 100000 in
set_option maxHeartbeats 8000000 in
theorem great_walk2 {G : World → Prop} (C : Ctr G) (n0 n1 n2 n3 : Nat) (d : Int) (w : World) (hG : G w) (h0 : n0 < 18446744073709551616) (h1 : n1 < 18446744073709551616) (h2 : n2 < 18446744073709551616) (h3 : n3 < 18446744073709551616) (hd : Int.tmod d 4 = 1) (hd0 : 0 ≤ d) (hd1 : d ≤ 255) :
    Calls Tryd.prog 6 #[.agg #[.int .u64 n0, .int .u64 n1, .int .u64 n2, .int .u64 n3], .int .u8 d] w fun e W' => e = .returned (.bool true) ∧ Below w.heap.size w W' := by
  have HK : Hid (∀ W, Below w.heap.size w W → G W) := fun W h => C.keep w W hG h
  have HW : Hid (∀ W, Below w.heap.size w W → _) := fun W h => works_any C W (HK.out W h)
  have HPR : Hid (∀ (s : ByteArray) (x : Nat) (y : Int) W, s.size ≤ 1000 → prs (bn s) = (x, y) → Below w.heap.size w W → _) := fun s x y W hs hh hg => C.cpIs (s := s) (x := x) (y := y) (by omega) hh W (HK.out W hg)
  have HCE : Hid (∀ W, Below (w.heap.size + 1) (w.alloc (.cells #[.int .u64 n0, .int .u64 n1, .int .u64 n2, .int .u64 n3] 38)) W → ∀ (j : Nat) (u : Value), ([.int .u64 n0, .int .u64 n1, .int .u64 n2, .int .u64 n3] : List Value)[j]? = some u → W.cell? ⟨w.heap.size, j, none⟩ = some u) := fun W h j u hu => cell_new w _ _ j u hu h
  have HPT := hid (prs_tens (ns := [n0, n1]) (by simp) (by simp) (by simp; omega))
  rw [← pre_join2] at HPT
  have HGA := hid (gr_all2 n0 n1)
  have HSA := hid (su_all2 n0 n1)
  have HB0 : Hid (Below w.heap.size w (w.alloc (.cells #[.int .u64 n0, .int .u64 n1, .int .u64 n2, .int .u64 n3] 38))) := (Below.refl _ _).alloc (Nat.le_refl _) _
  have HZ : Hid ((w.alloc (.cells #[.int .u64 n0, .int .u64 n1, .int .u64 n2, .int .u64 n3] 38)).heap.size = w.heap.size + 1) := by show _ = _; simp
  have HW0 := hid (fun W => written_any n0 h0 2 (by decide) W)
  have HW1 := hid (fun W => written_any n1 h1 2 (by decide) W)
  clear C hG
  go_enter Tryd.func6, Tryd.ntmps6
  go_wp2_with fail
  obtain ⟨w1, hw1⟩ : ∃ w1, w.alloc (.cells #[.int .u64 n0, .int .u64 n1, .int .u64 n2, .int .u64 n3] 38) = w1 := ⟨_, rfl⟩
  rw [hw1] at HCE HB0 HZ ⊢
  clear hw1
  go_loopw [6, 7, 8, 9] (fun v6 v7 v8 v9 wr => ∃ (i : Nat) (T : ByteArray) (g : Bool) (u : Nat), i ≤ 2 ∧ v6 = .string T ∧ v7 = .bool g ∧ v8 = .int .u64 u ∧ v9 = .int .i64 i ∧ T.size ≤ 70 * i ∧ (i < 2 → u ≤ i * 4278190080) ∧ Hid (bn T = preT [n0, n1] i) ∧ Hid (gr 2 [n0, n1] i = g) ∧ Hid (su 2 [n0, n1] i = u) ∧ Hid (Below (w.heap.size + 1) w1 wr)) (fun _ _ _ v9 _ => 2 - (intOf v9).toNat)
  case atStart => exact ⟨0, ⟨#[]⟩, false, 0, Nat.zero_le _, rfl, rfl, rfl, rfl, Nat.le_refl _, by omega, rfl, rfl, rfl, Below.refl _ _⟩
  case round =>
    obtain ⟨i, T, g, u, hi, rfl, rfl, rfl, rfl, hT, hu, HT, HG, HU, HB⟩ := hrel
    have zj : w.heap.size + 1 ≤ wr.heap.size := by rw [← HZ.out]; exact HB.out.size
    obtain rfl | rfl | rfl : i = 0 ∨ i = 1 ∨ i = 2 := by omega
    · have hc := HCE.out _ HB.out 0 (.int .u64 n0) rfl
      have hcx : ∀ W, Below (w.heap.size + 1) w1 W → W.cell? ⟨w.heap.size, 0, none⟩ = some (.int .u64 n0) := fun W h => HCE.out W h 0 (.int .u64 n0) rfl
      have HCX := hid hcx
      clear hcx
      have huu := hu (by omega)
      clear hu
      have HG2 : Hid (gr 2 [n0, n1] 1 = (g || decide (255 < n0))) := by show _ = _; rw [gr_st20, HG.out]
      have HU2 : Hid (su 2 [n0, n1] 1 = u + n0 % 256 * 16777216) := by show _ = _; rw [su_st20, HU.out]
      have hand : bits BinOp.and IntKind.u64 (n0 : Int) 255 = ((n0 % 256 : Nat) : Int) := by rw [u64_and255 (by omega) (by omega)]; omega
      obtain ⟨m, hm⟩ : ∃ m, n0 % 256 = m := ⟨_, rfl⟩
      have hmb : m < 256 := by omega
      rw [hm] at hand HU2
      obtain ⟨f, hf⟩ : ∃ f, decide (255 < n0) = f := ⟨_, rfl⟩
      rw [hf] at HG2
      have hf2 : decide ((255 : Int) < (n0 : Int)) = f := by rw [← hf]; exact decide_eq_decide.2 ⟨fun h => by omega, fun h => by omega⟩
      clear hf hm
      have hT0 : T.size = 0 := by omega
      have HP2 : Hid (∀ t, bn t = wrt 2 n0 → bn (T ++ t) = preT [n0, n1] 1) := fun t ht => by rw [pr_st20, bn_append, HT.out, ht]; rfl
      go_wp2_with fail
      refine (HW0.out _).mono ?_
      rintro e w2 ⟨⟨t, rfl, ht⟩, B2⟩
      have hts := wr_size ht
      have HP3 := hid (HP2.out t ht)
      have HB2 := hid (HB.out.trans (B2.mono zj))
      have hc2 := HCX.out _ HB2.out
      clear ht B2 HP2 HCX hc
      cases g with
      | true =>
        go_wp2_with fail
        go_roundw
        case rel => exact ⟨1, T ++ t, true, u + m * 16777216, by omega, rfl, rfl, by go_num, rfl, by simp [ByteArray.size_append]; omega, by omega, HP3, by show _ = _; rw [HG2.out]; rfl, HU2, HB2⟩
        case measure => simp [intOf]
      | false =>
        go_wp2_with fail
        go_roundw
        case rel => exact ⟨1, T ++ t, f, u + m * 16777216, by omega, rfl, rfl, by go_num, rfl, by simp [ByteArray.size_append]; omega, by omega, HP3, by show _ = _; rw [HG2.out]; rfl, HU2, HB2⟩
        case measure => simp [intOf]
    · have hc := HCE.out _ HB.out 1 (.int .u64 n1) rfl
      have hcx : ∀ W, Below (w.heap.size + 1) w1 W → W.cell? ⟨w.heap.size, 1, none⟩ = some (.int .u64 n1) := fun W h => HCE.out W h 1 (.int .u64 n1) rfl
      have HCX := hid hcx
      clear hcx
      have huu := hu (by omega)
      clear hu
      have HG2 : Hid (gr 2 [n0, n1] 2 = (g || decide (16777216 ≤ n1))) := by show _ = _; rw [gr_st21, HG.out]
      have HU2 : Hid (su 2 [n0, n1] 2 = (u + n1) % 18446744073709551616) := by show _ = _; rw [su_st21, HU.out]
      obtain ⟨f, hf⟩ : ∃ f, decide (16777216 ≤ n1) = f := ⟨_, rfl⟩
      rw [hf] at HG2
      have hf2 : decide ((16777216 : Int) ≤ (n1 : Int)) = f := by rw [← hf]; exact decide_eq_decide.2 ⟨fun h => by omega, fun h => by omega⟩
      clear hf
      obtain ⟨u2, hu2⟩ : ∃ u2, (u + n1) % 18446744073709551616 = u2 := ⟨_, rfl⟩
      have hwr : IntKind.u64.wrap ((u : Int) + (n1 : Int)) = (u2 : Int) := by simp [IntKind.wrap, IntKind.bits, IntKind.signed]; omega
      rw [hu2] at HU2
      clear hu2
      have HP2 : Hid (∀ t, bn t = wrt 2 n1 → bn (T ++ ⟨#[46]⟩ ++ t) = preT [n0, n1] 2) := fun t ht => by rw [pr_st21, bn_append, bn_append, HT.out, ht]; rfl
      go_wp2_with fail
      refine (HW1.out _).mono ?_
      rintro e w2 ⟨⟨t, rfl, ht⟩, B2⟩
      have hts := wr_size ht
      have HP3 := hid (HP2.out t ht)
      have HB2 := hid (HB.out.trans (B2.mono zj))
      have hc2 := HCX.out _ HB2.out
      clear ht B2 HP2 HCX hc
      cases g with
      | true =>
        go_wp2_with fail
        go_roundw
        case rel => exact ⟨2, T ++ ⟨#[46]⟩ ++ t, true, u2, by omega, rfl, rfl, by go_num, rfl, by simp [ByteArray.size_append, dot_size]; omega, by omega, HP3, by show _ = _; rw [HG2.out]; rfl, HU2, HB2⟩
        case measure => simp [intOf]
      | false =>
        go_wp2_with fail
        go_roundw
        case rel => exact ⟨2, T ++ ⟨#[46]⟩ ++ t, f, u2, by omega, rfl, rfl, by go_num, rfl, by simp [ByteArray.size_append, dot_size]; omega, by omega, HP3, by show _ = _; rw [HG2.out]; rfl, HU2, HB2⟩
        case measure => simp [intOf]
    · have HBW := hid (HB0.out.trans (HB.out.mono (Nat.le_succ _)))
      have HGQ : Hid (grt 2 [n0, n1] = g) := by show _ = _; rw [← HG.out]; exact HGA.out.symm
      rw [← HT.out] at HPT
      cases g with
      | true =>
        have HP := hid (HPR.out T 0 4 wr (by omega) (HPT.out.trans (if_pos HGQ.out)) HBW.out)
        clear HPT HPR HG HU HT
        go_wp2_with fail
        refine HP.out.mono ?_
        rintro e w2 ⟨rfl, B2⟩
        have HB2 := hid (HBW.out.trans (B2.mono HBW.out.size))
        clear B2 HP
        go_wp2_with (go_at_call 7; refine (HW.out _ HB2.out).mono ?_; rintro e w3 ⟨rfl, B3⟩; have HB3 := hid (HB2.out.trans (B3.mono HB2.out.size)); clear B3)
        go_ret
        exact ⟨rfl, HB3.out⟩
      | false =>
        obtain ⟨hs1, hs2⟩ := HSA.out HGQ.out
        have hsu := HU.out
        rw [hs1] at hsu
        have HP := hid (HPR.out T _ 0 wr (by omega) (HPT.out.trans (if_neg (by have h9 : grt 2 [n0, n1] = false := HGQ.out; intro h8; rw [show grt (List.length [n0, n1]) [n0, n1] = grt 2 [n0, n1] from rfl, h9] at h8; cases h8))) HBW.out)
        rw [hsu] at HP hs2
        clear HPT HPR HG HU HT hs1 hsu HSA HGA HGQ hu
        go_wp2_with fail
        refine HP.out.mono ?_
        rintro e w2 ⟨rfl, B2⟩
        have HB2 := hid (HBW.out.trans (B2.mono HBW.out.size))
        clear B2 HP
        go_wp2_with (go_at_call 7; refine (HW.out _ HB2.out).mono ?_; rintro e w3 ⟨rfl, B3⟩; have HB3 := hid (HB2.out.trans (B3.mono HB2.out.size)); clear B3)
        go_ret
        exact ⟨rfl, HB3.out⟩
set_option maxRecDepth 100000 in
set_option maxHeartbeats 8000000 in
theorem great_walk3 {G : World → Prop} (C : Ctr G) (n0 n1 n2 n3 : Nat) (d : Int) (w : World) (hG : G w) (h0 : n0 < 18446744073709551616) (h1 : n1 < 18446744073709551616) (h2 : n2 < 18446744073709551616) (h3 : n3 < 18446744073709551616) (hd : Int.tmod d 4 = 2) (hd0 : 0 ≤ d) (hd1 : d ≤ 255) :
    Calls Tryd.prog 6 #[.agg #[.int .u64 n0, .int .u64 n1, .int .u64 n2, .int .u64 n3], .int .u8 d] w fun e W' => e = .returned (.bool true) ∧ Below w.heap.size w W' := by
  have HK : Hid (∀ W, Below w.heap.size w W → G W) := fun W h => C.keep w W hG h
  have HW : Hid (∀ W, Below w.heap.size w W → _) := fun W h => works_any C W (HK.out W h)
  have HPR : Hid (∀ (s : ByteArray) (x : Nat) (y : Int) W, s.size ≤ 1000 → prs (bn s) = (x, y) → Below w.heap.size w W → _) := fun s x y W hs hh hg => C.cpIs (s := s) (x := x) (y := y) (by omega) hh W (HK.out W hg)
  have HCE : Hid (∀ W, Below (w.heap.size + 1) (w.alloc (.cells #[.int .u64 n0, .int .u64 n1, .int .u64 n2, .int .u64 n3] 38)) W → ∀ (j : Nat) (u : Value), ([.int .u64 n0, .int .u64 n1, .int .u64 n2, .int .u64 n3] : List Value)[j]? = some u → W.cell? ⟨w.heap.size, j, none⟩ = some u) := fun W h j u hu => cell_new w _ _ j u hu h
  have HPT := hid (prs_tens (ns := [n0, n1, n2]) (by simp) (by simp) (by simp; omega))
  rw [← pre_join3] at HPT
  have HGA := hid (gr_all3 n0 n1 n2)
  have HSA := hid (su_all3 n0 n1 n2)
  have HB0 : Hid (Below w.heap.size w (w.alloc (.cells #[.int .u64 n0, .int .u64 n1, .int .u64 n2, .int .u64 n3] 38))) := (Below.refl _ _).alloc (Nat.le_refl _) _
  have HZ : Hid ((w.alloc (.cells #[.int .u64 n0, .int .u64 n1, .int .u64 n2, .int .u64 n3] 38)).heap.size = w.heap.size + 1) := by show _ = _; simp
  have HW0 := hid (fun W => written_any n0 h0 2 (by decide) W)
  have HW1 := hid (fun W => written_any n1 h1 2 (by decide) W)
  have HW2 := hid (fun W => written_any n2 h2 2 (by decide) W)
  clear C hG
  go_enter Tryd.func6, Tryd.ntmps6
  go_wp2_with fail
  obtain ⟨w1, hw1⟩ : ∃ w1, w.alloc (.cells #[.int .u64 n0, .int .u64 n1, .int .u64 n2, .int .u64 n3] 38) = w1 := ⟨_, rfl⟩
  rw [hw1] at HCE HB0 HZ ⊢
  clear hw1
  go_loopw [6, 7, 8, 9] (fun v6 v7 v8 v9 wr => ∃ (i : Nat) (T : ByteArray) (g : Bool) (u : Nat), i ≤ 3 ∧ v6 = .string T ∧ v7 = .bool g ∧ v8 = .int .u64 u ∧ v9 = .int .i64 i ∧ T.size ≤ 70 * i ∧ (i < 3 → u ≤ i * 4278190080) ∧ Hid (bn T = preT [n0, n1, n2] i) ∧ Hid (gr 3 [n0, n1, n2] i = g) ∧ Hid (su 3 [n0, n1, n2] i = u) ∧ Hid (Below (w.heap.size + 1) w1 wr)) (fun _ _ _ v9 _ => 3 - (intOf v9).toNat)
  case atStart => exact ⟨0, ⟨#[]⟩, false, 0, Nat.zero_le _, rfl, rfl, rfl, rfl, Nat.le_refl _, by omega, rfl, rfl, rfl, Below.refl _ _⟩
  case round =>
    obtain ⟨i, T, g, u, hi, rfl, rfl, rfl, rfl, hT, hu, HT, HG, HU, HB⟩ := hrel
    have zj : w.heap.size + 1 ≤ wr.heap.size := by rw [← HZ.out]; exact HB.out.size
    obtain rfl | rfl | rfl | rfl : i = 0 ∨ i = 1 ∨ i = 2 ∨ i = 3 := by omega
    · have hc := HCE.out _ HB.out 0 (.int .u64 n0) rfl
      have hcx : ∀ W, Below (w.heap.size + 1) w1 W → W.cell? ⟨w.heap.size, 0, none⟩ = some (.int .u64 n0) := fun W h => HCE.out W h 0 (.int .u64 n0) rfl
      have HCX := hid hcx
      clear hcx
      have huu := hu (by omega)
      clear hu
      have HG2 : Hid (gr 3 [n0, n1, n2] 1 = (g || decide (255 < n0))) := by show _ = _; rw [gr_st30, HG.out]
      have HU2 : Hid (su 3 [n0, n1, n2] 1 = u + n0 % 256 * 16777216) := by show _ = _; rw [su_st30, HU.out]
      have hand : bits BinOp.and IntKind.u64 (n0 : Int) 255 = ((n0 % 256 : Nat) : Int) := by rw [u64_and255 (by omega) (by omega)]; omega
      obtain ⟨m, hm⟩ : ∃ m, n0 % 256 = m := ⟨_, rfl⟩
      have hmb : m < 256 := by omega
      rw [hm] at hand HU2
      obtain ⟨f, hf⟩ : ∃ f, decide (255 < n0) = f := ⟨_, rfl⟩
      rw [hf] at HG2
      have hf2 : decide ((255 : Int) < (n0 : Int)) = f := by rw [← hf]; exact decide_eq_decide.2 ⟨fun h => by omega, fun h => by omega⟩
      clear hf hm
      have hT0 : T.size = 0 := by omega
      have HP2 : Hid (∀ t, bn t = wrt 2 n0 → bn (T ++ t) = preT [n0, n1, n2] 1) := fun t ht => by rw [pr_st30, bn_append, HT.out, ht]; rfl
      go_wp2_with fail
      refine (HW0.out _).mono ?_
      rintro e w2 ⟨⟨t, rfl, ht⟩, B2⟩
      have hts := wr_size ht
      have HP3 := hid (HP2.out t ht)
      have HB2 := hid (HB.out.trans (B2.mono zj))
      have hc2 := HCX.out _ HB2.out
      clear ht B2 HP2 HCX hc
      cases g with
      | true =>
        go_wp2_with fail
        go_roundw
        case rel => exact ⟨1, T ++ t, true, u + m * 16777216, by omega, rfl, rfl, by go_num, rfl, by simp [ByteArray.size_append]; omega, by omega, HP3, by show _ = _; rw [HG2.out]; rfl, HU2, HB2⟩
        case measure => simp [intOf]
      | false =>
        go_wp2_with fail
        go_roundw
        case rel => exact ⟨1, T ++ t, f, u + m * 16777216, by omega, rfl, rfl, by go_num, rfl, by simp [ByteArray.size_append]; omega, by omega, HP3, by show _ = _; rw [HG2.out]; rfl, HU2, HB2⟩
        case measure => simp [intOf]
    · have hc := HCE.out _ HB.out 1 (.int .u64 n1) rfl
      have hcx : ∀ W, Below (w.heap.size + 1) w1 W → W.cell? ⟨w.heap.size, 1, none⟩ = some (.int .u64 n1) := fun W h => HCE.out W h 1 (.int .u64 n1) rfl
      have HCX := hid hcx
      clear hcx
      have huu := hu (by omega)
      clear hu
      have HG2 : Hid (gr 3 [n0, n1, n2] 2 = (g || decide (255 < n1))) := by show _ = _; rw [gr_st31, HG.out]
      have HU2 : Hid (su 3 [n0, n1, n2] 2 = u + n1 % 256 * 65536) := by show _ = _; rw [su_st31, HU.out]
      have hand : bits BinOp.and IntKind.u64 (n1 : Int) 255 = ((n1 % 256 : Nat) : Int) := by rw [u64_and255 (by omega) (by omega)]; omega
      obtain ⟨m, hm⟩ : ∃ m, n1 % 256 = m := ⟨_, rfl⟩
      have hmb : m < 256 := by omega
      rw [hm] at hand HU2
      obtain ⟨f, hf⟩ : ∃ f, decide (255 < n1) = f := ⟨_, rfl⟩
      rw [hf] at HG2
      have hf2 : decide ((255 : Int) < (n1 : Int)) = f := by rw [← hf]; exact decide_eq_decide.2 ⟨fun h => by omega, fun h => by omega⟩
      clear hf hm
      have HP2 : Hid (∀ t, bn t = wrt 2 n1 → bn (T ++ ⟨#[46]⟩ ++ t) = preT [n0, n1, n2] 2) := fun t ht => by rw [pr_st31, bn_append, bn_append, HT.out, ht]; rfl
      go_wp2_with fail
      refine (HW1.out _).mono ?_
      rintro e w2 ⟨⟨t, rfl, ht⟩, B2⟩
      have hts := wr_size ht
      have HP3 := hid (HP2.out t ht)
      have HB2 := hid (HB.out.trans (B2.mono zj))
      have hc2 := HCX.out _ HB2.out
      clear ht B2 HP2 HCX hc
      cases g with
      | true =>
        go_wp2_with fail
        go_roundw
        case rel => exact ⟨2, T ++ ⟨#[46]⟩ ++ t, true, u + m * 65536, by omega, rfl, rfl, by go_num, rfl, by simp [ByteArray.size_append, dot_size]; omega, by omega, HP3, by show _ = _; rw [HG2.out]; rfl, HU2, HB2⟩
        case measure => simp [intOf]
      | false =>
        go_wp2_with fail
        go_roundw
        case rel => exact ⟨2, T ++ ⟨#[46]⟩ ++ t, f, u + m * 65536, by omega, rfl, rfl, by go_num, rfl, by simp [ByteArray.size_append, dot_size]; omega, by omega, HP3, by show _ = _; rw [HG2.out]; rfl, HU2, HB2⟩
        case measure => simp [intOf]
    · have hc := HCE.out _ HB.out 2 (.int .u64 n2) rfl
      have hcx : ∀ W, Below (w.heap.size + 1) w1 W → W.cell? ⟨w.heap.size, 2, none⟩ = some (.int .u64 n2) := fun W h => HCE.out W h 2 (.int .u64 n2) rfl
      have HCX := hid hcx
      clear hcx
      have huu := hu (by omega)
      clear hu
      have HG2 : Hid (gr 3 [n0, n1, n2] 3 = (g || decide (65536 ≤ n2))) := by show _ = _; rw [gr_st32, HG.out]
      have HU2 : Hid (su 3 [n0, n1, n2] 3 = (u + n2) % 18446744073709551616) := by show _ = _; rw [su_st32, HU.out]
      obtain ⟨f, hf⟩ : ∃ f, decide (65536 ≤ n2) = f := ⟨_, rfl⟩
      rw [hf] at HG2
      have hf2 : decide ((65536 : Int) ≤ (n2 : Int)) = f := by rw [← hf]; exact decide_eq_decide.2 ⟨fun h => by omega, fun h => by omega⟩
      clear hf
      obtain ⟨u2, hu2⟩ : ∃ u2, (u + n2) % 18446744073709551616 = u2 := ⟨_, rfl⟩
      have hwr : IntKind.u64.wrap ((u : Int) + (n2 : Int)) = (u2 : Int) := by simp [IntKind.wrap, IntKind.bits, IntKind.signed]; omega
      rw [hu2] at HU2
      clear hu2
      have HP2 : Hid (∀ t, bn t = wrt 2 n2 → bn (T ++ ⟨#[46]⟩ ++ t) = preT [n0, n1, n2] 3) := fun t ht => by rw [pr_st32, bn_append, bn_append, HT.out, ht]; rfl
      go_wp2_with fail
      refine (HW2.out _).mono ?_
      rintro e w2 ⟨⟨t, rfl, ht⟩, B2⟩
      have hts := wr_size ht
      have HP3 := hid (HP2.out t ht)
      have HB2 := hid (HB.out.trans (B2.mono zj))
      have hc2 := HCX.out _ HB2.out
      clear ht B2 HP2 HCX hc
      cases g with
      | true =>
        go_wp2_with fail
        go_roundw
        case rel => exact ⟨3, T ++ ⟨#[46]⟩ ++ t, true, u2, by omega, rfl, rfl, by go_num, rfl, by simp [ByteArray.size_append, dot_size]; omega, by omega, HP3, by show _ = _; rw [HG2.out]; rfl, HU2, HB2⟩
        case measure => simp [intOf]
      | false =>
        go_wp2_with fail
        go_roundw
        case rel => exact ⟨3, T ++ ⟨#[46]⟩ ++ t, f, u2, by omega, rfl, rfl, by go_num, rfl, by simp [ByteArray.size_append, dot_size]; omega, by omega, HP3, by show _ = _; rw [HG2.out]; rfl, HU2, HB2⟩
        case measure => simp [intOf]
    · have HBW := hid (HB0.out.trans (HB.out.mono (Nat.le_succ _)))
      have HGQ : Hid (grt 3 [n0, n1, n2] = g) := by show _ = _; rw [← HG.out]; exact HGA.out.symm
      rw [← HT.out] at HPT
      cases g with
      | true =>
        have HP := hid (HPR.out T 0 4 wr (by omega) (HPT.out.trans (if_pos HGQ.out)) HBW.out)
        clear HPT HPR HG HU HT
        go_wp2_with fail
        refine HP.out.mono ?_
        rintro e w2 ⟨rfl, B2⟩
        have HB2 := hid (HBW.out.trans (B2.mono HBW.out.size))
        clear B2 HP
        go_wp2_with (go_at_call 7; refine (HW.out _ HB2.out).mono ?_; rintro e w3 ⟨rfl, B3⟩; have HB3 := hid (HB2.out.trans (B3.mono HB2.out.size)); clear B3)
        go_ret
        exact ⟨rfl, HB3.out⟩
      | false =>
        obtain ⟨hs1, hs2⟩ := HSA.out HGQ.out
        have hsu := HU.out
        rw [hs1] at hsu
        have HP := hid (HPR.out T _ 0 wr (by omega) (HPT.out.trans (if_neg (by have h9 : grt 3 [n0, n1, n2] = false := HGQ.out; intro h8; rw [show grt (List.length [n0, n1, n2]) [n0, n1, n2] = grt 3 [n0, n1, n2] from rfl, h9] at h8; cases h8))) HBW.out)
        rw [hsu] at HP hs2
        clear HPT HPR HG HU HT hs1 hsu HSA HGA HGQ hu
        go_wp2_with fail
        refine HP.out.mono ?_
        rintro e w2 ⟨rfl, B2⟩
        have HB2 := hid (HBW.out.trans (B2.mono HBW.out.size))
        clear B2 HP
        go_wp2_with (go_at_call 7; refine (HW.out _ HB2.out).mono ?_; rintro e w3 ⟨rfl, B3⟩; have HB3 := hid (HB2.out.trans (B3.mono HB2.out.size)); clear B3)
        go_ret
        exact ⟨rfl, HB3.out⟩
set_option maxRecDepth 100000 in
set_option maxHeartbeats 8000000 in
theorem great_walk4 {G : World → Prop} (C : Ctr G) (n0 n1 n2 n3 : Nat) (d : Int) (w : World) (hG : G w) (h0 : n0 < 18446744073709551616) (h1 : n1 < 18446744073709551616) (h2 : n2 < 18446744073709551616) (h3 : n3 < 18446744073709551616) (hd : Int.tmod d 4 = 3) (hd0 : 0 ≤ d) (hd1 : d ≤ 255) :
    Calls Tryd.prog 6 #[.agg #[.int .u64 n0, .int .u64 n1, .int .u64 n2, .int .u64 n3], .int .u8 d] w fun e W' => e = .returned (.bool true) ∧ Below w.heap.size w W' := by
  have HK : Hid (∀ W, Below w.heap.size w W → G W) := fun W h => C.keep w W hG h
  have HW : Hid (∀ W, Below w.heap.size w W → _) := fun W h => works_any C W (HK.out W h)
  have HPR : Hid (∀ (s : ByteArray) (x : Nat) (y : Int) W, s.size ≤ 1000 → prs (bn s) = (x, y) → Below w.heap.size w W → _) := fun s x y W hs hh hg => C.cpIs (s := s) (x := x) (y := y) (by omega) hh W (HK.out W hg)
  have HCE : Hid (∀ W, Below (w.heap.size + 1) (w.alloc (.cells #[.int .u64 n0, .int .u64 n1, .int .u64 n2, .int .u64 n3] 38)) W → ∀ (j : Nat) (u : Value), ([.int .u64 n0, .int .u64 n1, .int .u64 n2, .int .u64 n3] : List Value)[j]? = some u → W.cell? ⟨w.heap.size, j, none⟩ = some u) := fun W h j u hu => cell_new w _ _ j u hu h
  have HPT := hid (prs_tens (ns := [n0, n1, n2, n3]) (by simp) (by simp) (by simp; omega))
  rw [← pre_join4] at HPT
  have HGA := hid (gr_all4 n0 n1 n2 n3)
  have HSA := hid (su_all4 n0 n1 n2 n3)
  have HB0 : Hid (Below w.heap.size w (w.alloc (.cells #[.int .u64 n0, .int .u64 n1, .int .u64 n2, .int .u64 n3] 38))) := (Below.refl _ _).alloc (Nat.le_refl _) _
  have HZ : Hid ((w.alloc (.cells #[.int .u64 n0, .int .u64 n1, .int .u64 n2, .int .u64 n3] 38)).heap.size = w.heap.size + 1) := by show _ = _; simp
  have HW0 := hid (fun W => written_any n0 h0 2 (by decide) W)
  have HW1 := hid (fun W => written_any n1 h1 2 (by decide) W)
  have HW2 := hid (fun W => written_any n2 h2 2 (by decide) W)
  have HW3 := hid (fun W => written_any n3 h3 2 (by decide) W)
  clear C hG
  go_enter Tryd.func6, Tryd.ntmps6
  go_wp2_with fail
  obtain ⟨w1, hw1⟩ : ∃ w1, w.alloc (.cells #[.int .u64 n0, .int .u64 n1, .int .u64 n2, .int .u64 n3] 38) = w1 := ⟨_, rfl⟩
  rw [hw1] at HCE HB0 HZ ⊢
  clear hw1
  go_loopw [6, 7, 8, 9] (fun v6 v7 v8 v9 wr => ∃ (i : Nat) (T : ByteArray) (g : Bool) (u : Nat), i ≤ 4 ∧ v6 = .string T ∧ v7 = .bool g ∧ v8 = .int .u64 u ∧ v9 = .int .i64 i ∧ T.size ≤ 70 * i ∧ (i < 4 → u ≤ i * 4278190080) ∧ Hid (bn T = preT [n0, n1, n2, n3] i) ∧ Hid (gr 4 [n0, n1, n2, n3] i = g) ∧ Hid (su 4 [n0, n1, n2, n3] i = u) ∧ Hid (Below (w.heap.size + 1) w1 wr)) (fun _ _ _ v9 _ => 4 - (intOf v9).toNat)
  case atStart => exact ⟨0, ⟨#[]⟩, false, 0, Nat.zero_le _, rfl, rfl, rfl, rfl, Nat.le_refl _, by omega, rfl, rfl, rfl, Below.refl _ _⟩
  case round =>
    obtain ⟨i, T, g, u, hi, rfl, rfl, rfl, rfl, hT, hu, HT, HG, HU, HB⟩ := hrel
    have zj : w.heap.size + 1 ≤ wr.heap.size := by rw [← HZ.out]; exact HB.out.size
    obtain rfl | rfl | rfl | rfl | rfl : i = 0 ∨ i = 1 ∨ i = 2 ∨ i = 3 ∨ i = 4 := by omega
    · have hc := HCE.out _ HB.out 0 (.int .u64 n0) rfl
      have hcx : ∀ W, Below (w.heap.size + 1) w1 W → W.cell? ⟨w.heap.size, 0, none⟩ = some (.int .u64 n0) := fun W h => HCE.out W h 0 (.int .u64 n0) rfl
      have HCX := hid hcx
      clear hcx
      have huu := hu (by omega)
      clear hu
      have HG2 : Hid (gr 4 [n0, n1, n2, n3] 1 = (g || decide (255 < n0))) := by show _ = _; rw [gr_st40, HG.out]
      have HU2 : Hid (su 4 [n0, n1, n2, n3] 1 = u + n0 % 256 * 16777216) := by show _ = _; rw [su_st40, HU.out]
      have hand : bits BinOp.and IntKind.u64 (n0 : Int) 255 = ((n0 % 256 : Nat) : Int) := by rw [u64_and255 (by omega) (by omega)]; omega
      obtain ⟨m, hm⟩ : ∃ m, n0 % 256 = m := ⟨_, rfl⟩
      have hmb : m < 256 := by omega
      rw [hm] at hand HU2
      obtain ⟨f, hf⟩ : ∃ f, decide (255 < n0) = f := ⟨_, rfl⟩
      rw [hf] at HG2
      have hf2 : decide ((255 : Int) < (n0 : Int)) = f := by rw [← hf]; exact decide_eq_decide.2 ⟨fun h => by omega, fun h => by omega⟩
      clear hf hm
      have hT0 : T.size = 0 := by omega
      have HP2 : Hid (∀ t, bn t = wrt 2 n0 → bn (T ++ t) = preT [n0, n1, n2, n3] 1) := fun t ht => by rw [pr_st40, bn_append, HT.out, ht]; rfl
      go_wp2_with fail
      refine (HW0.out _).mono ?_
      rintro e w2 ⟨⟨t, rfl, ht⟩, B2⟩
      have hts := wr_size ht
      have HP3 := hid (HP2.out t ht)
      have HB2 := hid (HB.out.trans (B2.mono zj))
      have hc2 := HCX.out _ HB2.out
      clear ht B2 HP2 HCX hc
      cases g with
      | true =>
        go_wp2_with fail
        go_roundw
        case rel => exact ⟨1, T ++ t, true, u + m * 16777216, by omega, rfl, rfl, by go_num, rfl, by simp [ByteArray.size_append]; omega, by omega, HP3, by show _ = _; rw [HG2.out]; rfl, HU2, HB2⟩
        case measure => simp [intOf]
      | false =>
        go_wp2_with fail
        go_roundw
        case rel => exact ⟨1, T ++ t, f, u + m * 16777216, by omega, rfl, rfl, by go_num, rfl, by simp [ByteArray.size_append]; omega, by omega, HP3, by show _ = _; rw [HG2.out]; rfl, HU2, HB2⟩
        case measure => simp [intOf]
    · have hc := HCE.out _ HB.out 1 (.int .u64 n1) rfl
      have hcx : ∀ W, Below (w.heap.size + 1) w1 W → W.cell? ⟨w.heap.size, 1, none⟩ = some (.int .u64 n1) := fun W h => HCE.out W h 1 (.int .u64 n1) rfl
      have HCX := hid hcx
      clear hcx
      have huu := hu (by omega)
      clear hu
      have HG2 : Hid (gr 4 [n0, n1, n2, n3] 2 = (g || decide (255 < n1))) := by show _ = _; rw [gr_st41, HG.out]
      have HU2 : Hid (su 4 [n0, n1, n2, n3] 2 = u + n1 % 256 * 65536) := by show _ = _; rw [su_st41, HU.out]
      have hand : bits BinOp.and IntKind.u64 (n1 : Int) 255 = ((n1 % 256 : Nat) : Int) := by rw [u64_and255 (by omega) (by omega)]; omega
      obtain ⟨m, hm⟩ : ∃ m, n1 % 256 = m := ⟨_, rfl⟩
      have hmb : m < 256 := by omega
      rw [hm] at hand HU2
      obtain ⟨f, hf⟩ : ∃ f, decide (255 < n1) = f := ⟨_, rfl⟩
      rw [hf] at HG2
      have hf2 : decide ((255 : Int) < (n1 : Int)) = f := by rw [← hf]; exact decide_eq_decide.2 ⟨fun h => by omega, fun h => by omega⟩
      clear hf hm
      have HP2 : Hid (∀ t, bn t = wrt 2 n1 → bn (T ++ ⟨#[46]⟩ ++ t) = preT [n0, n1, n2, n3] 2) := fun t ht => by rw [pr_st41, bn_append, bn_append, HT.out, ht]; rfl
      go_wp2_with fail
      refine (HW1.out _).mono ?_
      rintro e w2 ⟨⟨t, rfl, ht⟩, B2⟩
      have hts := wr_size ht
      have HP3 := hid (HP2.out t ht)
      have HB2 := hid (HB.out.trans (B2.mono zj))
      have hc2 := HCX.out _ HB2.out
      clear ht B2 HP2 HCX hc
      cases g with
      | true =>
        go_wp2_with fail
        go_roundw
        case rel => exact ⟨2, T ++ ⟨#[46]⟩ ++ t, true, u + m * 65536, by omega, rfl, rfl, by go_num, rfl, by simp [ByteArray.size_append, dot_size]; omega, by omega, HP3, by show _ = _; rw [HG2.out]; rfl, HU2, HB2⟩
        case measure => simp [intOf]
      | false =>
        go_wp2_with fail
        go_roundw
        case rel => exact ⟨2, T ++ ⟨#[46]⟩ ++ t, f, u + m * 65536, by omega, rfl, rfl, by go_num, rfl, by simp [ByteArray.size_append, dot_size]; omega, by omega, HP3, by show _ = _; rw [HG2.out]; rfl, HU2, HB2⟩
        case measure => simp [intOf]
    · have hc := HCE.out _ HB.out 2 (.int .u64 n2) rfl
      have hcx : ∀ W, Below (w.heap.size + 1) w1 W → W.cell? ⟨w.heap.size, 2, none⟩ = some (.int .u64 n2) := fun W h => HCE.out W h 2 (.int .u64 n2) rfl
      have HCX := hid hcx
      clear hcx
      have huu := hu (by omega)
      clear hu
      have HG2 : Hid (gr 4 [n0, n1, n2, n3] 3 = (g || decide (255 < n2))) := by show _ = _; rw [gr_st42, HG.out]
      have HU2 : Hid (su 4 [n0, n1, n2, n3] 3 = u + n2 % 256 * 256) := by show _ = _; rw [su_st42, HU.out]
      have hand : bits BinOp.and IntKind.u64 (n2 : Int) 255 = ((n2 % 256 : Nat) : Int) := by rw [u64_and255 (by omega) (by omega)]; omega
      obtain ⟨m, hm⟩ : ∃ m, n2 % 256 = m := ⟨_, rfl⟩
      have hmb : m < 256 := by omega
      rw [hm] at hand HU2
      obtain ⟨f, hf⟩ : ∃ f, decide (255 < n2) = f := ⟨_, rfl⟩
      rw [hf] at HG2
      have hf2 : decide ((255 : Int) < (n2 : Int)) = f := by rw [← hf]; exact decide_eq_decide.2 ⟨fun h => by omega, fun h => by omega⟩
      clear hf hm
      have HP2 : Hid (∀ t, bn t = wrt 2 n2 → bn (T ++ ⟨#[46]⟩ ++ t) = preT [n0, n1, n2, n3] 3) := fun t ht => by rw [pr_st42, bn_append, bn_append, HT.out, ht]; rfl
      go_wp2_with fail
      refine (HW2.out _).mono ?_
      rintro e w2 ⟨⟨t, rfl, ht⟩, B2⟩
      have hts := wr_size ht
      have HP3 := hid (HP2.out t ht)
      have HB2 := hid (HB.out.trans (B2.mono zj))
      have hc2 := HCX.out _ HB2.out
      clear ht B2 HP2 HCX hc
      cases g with
      | true =>
        go_wp2_with fail
        go_roundw
        case rel => exact ⟨3, T ++ ⟨#[46]⟩ ++ t, true, u + m * 256, by omega, rfl, rfl, by go_num, rfl, by simp [ByteArray.size_append, dot_size]; omega, by omega, HP3, by show _ = _; rw [HG2.out]; rfl, HU2, HB2⟩
        case measure => simp [intOf]
      | false =>
        go_wp2_with fail
        go_roundw
        case rel => exact ⟨3, T ++ ⟨#[46]⟩ ++ t, f, u + m * 256, by omega, rfl, rfl, by go_num, rfl, by simp [ByteArray.size_append, dot_size]; omega, by omega, HP3, by show _ = _; rw [HG2.out]; rfl, HU2, HB2⟩
        case measure => simp [intOf]
    · have hc := HCE.out _ HB.out 3 (.int .u64 n3) rfl
      have hcx : ∀ W, Below (w.heap.size + 1) w1 W → W.cell? ⟨w.heap.size, 3, none⟩ = some (.int .u64 n3) := fun W h => HCE.out W h 3 (.int .u64 n3) rfl
      have HCX := hid hcx
      clear hcx
      have huu := hu (by omega)
      clear hu
      have HG2 : Hid (gr 4 [n0, n1, n2, n3] 4 = (g || decide (256 ≤ n3))) := by show _ = _; rw [gr_st43, HG.out]
      have HU2 : Hid (su 4 [n0, n1, n2, n3] 4 = (u + n3) % 18446744073709551616) := by show _ = _; rw [su_st43, HU.out]
      obtain ⟨f, hf⟩ : ∃ f, decide (256 ≤ n3) = f := ⟨_, rfl⟩
      rw [hf] at HG2
      have hf2 : decide ((256 : Int) ≤ (n3 : Int)) = f := by rw [← hf]; exact decide_eq_decide.2 ⟨fun h => by omega, fun h => by omega⟩
      clear hf
      obtain ⟨u2, hu2⟩ : ∃ u2, (u + n3) % 18446744073709551616 = u2 := ⟨_, rfl⟩
      have hwr : IntKind.u64.wrap ((u : Int) + (n3 : Int)) = (u2 : Int) := by simp [IntKind.wrap, IntKind.bits, IntKind.signed]; omega
      rw [hu2] at HU2
      clear hu2
      have HP2 : Hid (∀ t, bn t = wrt 2 n3 → bn (T ++ ⟨#[46]⟩ ++ t) = preT [n0, n1, n2, n3] 4) := fun t ht => by rw [pr_st43, bn_append, bn_append, HT.out, ht]; rfl
      go_wp2_with fail
      refine (HW3.out _).mono ?_
      rintro e w2 ⟨⟨t, rfl, ht⟩, B2⟩
      have hts := wr_size ht
      have HP3 := hid (HP2.out t ht)
      have HB2 := hid (HB.out.trans (B2.mono zj))
      have hc2 := HCX.out _ HB2.out
      clear ht B2 HP2 HCX hc
      cases g with
      | true =>
        go_wp2_with fail
        go_roundw
        case rel => exact ⟨4, T ++ ⟨#[46]⟩ ++ t, true, u2, by omega, rfl, rfl, by go_num, rfl, by simp [ByteArray.size_append, dot_size]; omega, by omega, HP3, by show _ = _; rw [HG2.out]; rfl, HU2, HB2⟩
        case measure => simp [intOf]
      | false =>
        go_wp2_with fail
        go_roundw
        case rel => exact ⟨4, T ++ ⟨#[46]⟩ ++ t, f, u2, by omega, rfl, rfl, by go_num, rfl, by simp [ByteArray.size_append, dot_size]; omega, by omega, HP3, by show _ = _; rw [HG2.out]; rfl, HU2, HB2⟩
        case measure => simp [intOf]
    · have HBW := hid (HB0.out.trans (HB.out.mono (Nat.le_succ _)))
      have HGQ : Hid (grt 4 [n0, n1, n2, n3] = g) := by show _ = _; rw [← HG.out]; exact HGA.out.symm
      rw [← HT.out] at HPT
      cases g with
      | true =>
        have HP := hid (HPR.out T 0 4 wr (by omega) (HPT.out.trans (if_pos HGQ.out)) HBW.out)
        clear HPT HPR HG HU HT
        go_wp2_with fail
        refine HP.out.mono ?_
        rintro e w2 ⟨rfl, B2⟩
        have HB2 := hid (HBW.out.trans (B2.mono HBW.out.size))
        clear B2 HP
        go_wp2_with (go_at_call 7; refine (HW.out _ HB2.out).mono ?_; rintro e w3 ⟨rfl, B3⟩; have HB3 := hid (HB2.out.trans (B3.mono HB2.out.size)); clear B3)
        go_ret
        exact ⟨rfl, HB3.out⟩
      | false =>
        obtain ⟨hs1, hs2⟩ := HSA.out HGQ.out
        have hsu := HU.out
        rw [hs1] at hsu
        have HP := hid (HPR.out T _ 0 wr (by omega) (HPT.out.trans (if_neg (by have h9 : grt 4 [n0, n1, n2, n3] = false := HGQ.out; intro h8; rw [show grt (List.length [n0, n1, n2, n3]) [n0, n1, n2, n3] = grt 4 [n0, n1, n2, n3] from rfl, h9] at h8; cases h8))) HBW.out)
        rw [hsu] at HP hs2
        clear HPT HPR HG HU HT hs1 hsu HSA HGA HGQ hu
        go_wp2_with fail
        refine HP.out.mono ?_
        rintro e w2 ⟨rfl, B2⟩
        have HB2 := hid (HBW.out.trans (B2.mono HBW.out.size))
        clear B2 HP
        go_wp2_with (go_at_call 7; refine (HW.out _ HB2.out).mono ?_; rintro e w3 ⟨rfl, B3⟩; have HB3 := hid (HB2.out.trans (B3.mono HB2.out.size)); clear B3)
        go_ret
        exact ⟨rfl, HB3.out⟩
theorem u64_wf {d : Int} (h : (Lit.int .u64 d).wf = true) : 0 ≤ d ∧ d ≤ 18446744073709551615 := by
  simp [Lit.wf, IntKind.min, IntKind.max, IntKind.bits, IntKind.signed] at h
  omega
theorem great_walk {G : World → Prop} (C : Ctr G) (m0 m1 m2 m3 d : Int) (w : World) (hG : G w) (h0 : (Lit.int .u64 m0).wf = true) (h1 : (Lit.int .u64 m1).wf = true) (h2 : (Lit.int .u64 m2).wf = true) (h3 : (Lit.int .u64 m3).wf = true) (hd : (Lit.int .u8 d).wf = true) :
    Calls Tryd.prog 6 #[.agg #[.int .u64 m0, .int .u64 m1, .int .u64 m2, .int .u64 m3], .int .u8 d] w fun e W' => e = .returned (.bool true) ∧ Below w.heap.size w W' := by
  obtain ⟨p0, p1⟩ := u8_wf hd
  have q0 := u64_wf h0
  have q1 := u64_wf h1
  have q2 := u64_wf h2
  have q3 := u64_wf h3
  obtain ⟨n0, rfl⟩ : ∃ n : Nat, m0 = (n : Int) := ⟨m0.toNat, by omega⟩
  obtain ⟨n1, rfl⟩ : ∃ n : Nat, m1 = (n : Int) := ⟨m1.toNat, by omega⟩
  obtain ⟨n2, rfl⟩ : ∃ n : Nat, m2 = (n : Int) := ⟨m2.toNat, by omega⟩
  obtain ⟨n3, rfl⟩ : ∃ n : Nat, m3 = (n : Int) := ⟨m3.toNat, by omega⟩
  have ht : Int.tmod d 4 = d % 4 := Int.tmod_eq_emod_of_nonneg p0
  obtain h | h | h | h : d % 4 = 0 ∨ d % 4 = 1 ∨ d % 4 = 2 ∨ d % 4 = 3 := by omega
  · exact great_walk1 C n0 n1 n2 n3 d w hG (by omega) (by omega) (by omega) (by omega) (by omega) p0 p1
  · exact great_walk2 C n0 n1 n2 n3 d w hG (by omega) (by omega) (by omega) (by omega) (by omega) p0 p1
  · exact great_walk3 C n0 n1 n2 n3 d w hG (by omega) (by omega) (by omega) (by omega) (by omega) p0 p1
  · exact great_walk4 C n0 n1 n2 n3 d w hG (by omega) (by omega) (by omega) (by omega) (by omega) p0 p1
end Go.Proofs.YtklplalfcpigcaaDoor.F
