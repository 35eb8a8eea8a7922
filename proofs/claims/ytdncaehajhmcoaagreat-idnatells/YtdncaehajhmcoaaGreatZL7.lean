/- Texts of one layer, one behind the other: LJ. -/
import Derived.Test.YtdncaehajhmcoaaGreatZL6
import Derived.Laws.EntriesVeiled
/- The contract of Faults. -/
namespace Go.Proofs.YtdncaehajhmcoaaGreat.L
open Go.RowKit
set_option linter.unusedVariables false

theorem or_bit : ∀ k : Fin 8, ∀ s : Fin 128, s.val < 2 ^ k.val → bits .or .u16 (s.val : Int) (2 ^ k.val) = (s.val : Int) + 2 ^ k.val := by decide +kernel
theorem sm_snoc : ∀ (l : List Bool) (i : Nat) (b : Bool), sm i (l ++ [b]) = sm i l + bt b (2 ^ (i + l.length))
  | [], i, b => by simp [sm]
  | a :: l, i, b => by
    rw [List.cons_append, sm, sm, sm_snoc l (i + 1) b, List.length_cons, show i + 1 + l.length = i + (l.length + 1) by omega]; omega
theorem sm_bd : ∀ (l : List Bool) (i : Nat), 0 ≤ sm i l ∧ sm i l + 2 ^ i ≤ 2 ^ (i + l.length)
  | [], i => by simp [sm]
  | a :: l, i => by
    have h := sm_bd l (i + 1)
    rw [sm, List.length_cons, show i + (l.length + 1) = i + 1 + l.length by omega]
    have e : (2 : Int) ^ (i + 1) = 2 ^ i + 2 ^ i := by rw [Int.pow_succ]; omega
    have p : (0 : Int) < 2 ^ i := Int.pow_pos (by omega)
    unfold bt
    split <;> omega
theorem Qs.below {W W' : World} {g Bl Bh Bf Bz : Nat} {v : Value} {hy : Bool} {x y : Int} (h : Qs W g Bl Bh Bf Bz v hy x y) (hB : Below W.heap.size W W') : Qs W' g Bl Bh Bf Bz v hy x y :=
  ⟨(hB.block g (Array.getElem?_eq_some_iff.1 h.row).1).trans h.row, (hB.block _ h.l.lt).trans h.l, (hB.block _ h.h.lt).trans h.h, (hB.block _ h.f.lt).trans h.f, (hB.block _ h.z.lt).trans h.z⟩
theorem Qs.alloc {W : World} {g Bl Bh Bf Bz : Nat} {v : Value} {hy : Bool} {x y : Int} (h : Qs W g Bl Bh Bf Bz v hy x y) (o : Obj) : Qs (W.alloc o) g Bl Bh Bf Bz v hy x y := h.below ((Below.refl _ W).alloc (Nat.le_refl _) o)
theorem Qs.cell {W : World} {g Bl Bh Bf Bz : Nat} {v : Value} {hy : Bool} {x y : Int} (h : Qs W g Bl Bh Bf Bz v hy x y) (i : Nat) (z : Value) (hz : (qCells Bl Bh Bf Bz)[i]? = some z) : W.cell? ⟨g, i, none⟩ = some z := by
  simp [World.cell?, h.row, hz]
/-- One more question. -/
structure Sm (Q : List Bool) (k : Nat) (s : Int) : Prop where
  eq : s = sm 0 (Q.take k)
  lo : 0 ≤ s
  hi : s < 2 ^ k
theorem Sm.yes {Q : List Bool} {k : Nat} {s : Int} (h : Sm Q k s) (hk : k < 8) (hq : Q[k]? = some true) : Sm Q (k + 1) (bits .or .u16 s (2 ^ k)) := by
  have hkl : k < Q.length := (List.getElem?_eq_some_iff.1 hq).1
  have hlt : s < 128 := by
    have h1 := h.hi
    have h2 : (2 : Int) ^ k ≤ 2 ^ 7 := by
      have := Nat.pow_le_pow_right (show 0 < 2 by omega) (show k ≤ 7 by omega)
      exact_mod_cast this
    have e7 : (2 : Int) ^ 7 = 128 := by decide
    omega
  obtain ⟨m, rfl⟩ : ∃ m : Nat, s = m := ⟨s.toNat, by have := h.lo; omega⟩
  have hm : m < 2 ^ k := by have := h.hi; exact_mod_cast this
  have e := or_bit ⟨k, hk⟩ ⟨m, by omega⟩ hm
  simp only at e
  have ep : (2 : Int) ^ (k + 1) = 2 ^ k + 2 ^ k := by rw [Int.pow_succ]; omega
  have hq' : Q[k] = true := (List.getElem?_eq_some_iff.1 hq).2
  refine ⟨?_, ?_, ?_⟩
  · rw [e, h.eq, List.take_succ_eq_append_getElem hkl, sm_snoc, List.length_take, hq', Nat.min_eq_left (by omega), Nat.zero_add]; rfl
  · rw [e]
    have : (0 : Int) < 2 ^ k := Int.pow_pos (by omega)
    omega
  · rw [e, ep]
    have := h.hi
    omega
theorem Sm.no {Q : List Bool} {k : Nat} {s : Int} (h : Sm Q k s) (hq : Q[k]? = some false) : Sm Q (k + 1) s := by
  have hkl : k < Q.length := (List.getElem?_eq_some_iff.1 hq).1
  have hq' : Q[k] = false := (List.getElem?_eq_some_iff.1 hq).2
  have ep : (2 : Int) ^ (k + 1) = 2 ^ k + 2 ^ k := by rw [Int.pow_succ]; omega
  refine ⟨?_, h.lo, ?_⟩
  · rw [List.take_succ_eq_append_getElem hkl, sm_snoc, hq', ← h.eq]; simp [bt]
  · have := h.hi
    have : (0 : Int) < 2 ^ k := Int.pow_pos (by omega)
    omega
theorem qs_len (L : List Int) (hy : Bool) : (qs L hy).length = 8 := rfl
/-- What each question answers, at any world behind. -/
structure Asks (w : World) (L : List Int) (hy : Bool) (v : Value) (g Bl Bh Bf Bz : Nat) : Prop where
  a1 : ∀ W, Qs W g Bl Bh Bf Bz v hy (L[0]?.getD 0) (L[L.length - 1]?.getD 0) → Below w.heap.size w W → Calls Tryz.prog 127 #[.pointer (some ⟨Bl, 0, none⟩)] W fun e W' => e = .returned (.bool ((qs L hy)[0]?.getD false)) ∧ Below W.heap.size W W'
  a2 : ∀ W, Qs W g Bl Bh Bf Bz v hy (L[0]?.getD 0) (L[L.length - 1]?.getD 0) → Below w.heap.size w W → Calls Tryz.prog 129 #[.pointer (some ⟨Bh, 0, none⟩), .pointer (some ⟨Bl, 0, none⟩)] W fun e W' => e = .returned (.bool ((qs L hy)[1]?.getD false)) ∧ Below W.heap.size W W'
  a3 : ∀ W, Qs W g Bl Bh Bf Bz v hy (L[0]?.getD 0) (L[L.length - 1]?.getD 0) → Below w.heap.size w W → Calls Tryz.prog 130 #[.pointer (some ⟨Bh, 0, none⟩), .pointer (some ⟨Bf, 0, none⟩), .pointer (some ⟨Bz, 0, none⟩)] W fun e W' => e = .returned (.bool ((qs L hy)[2]?.getD false)) ∧ Below W.heap.size W W'
  a4 : ∀ W, Qs W g Bl Bh Bf Bz v hy (L[0]?.getD 0) (L[L.length - 1]?.getD 0) → Below w.heap.size w W → Calls Tryz.prog 131 #[.pointer (some ⟨Bl, 0, none⟩)] W fun e W' => e = .returned (.bool ((qs L hy)[3]?.getD false)) ∧ Below W.heap.size W W'
  a5 : ∀ W, Qs W g Bl Bh Bf Bz v hy (L[0]?.getD 0) (L[L.length - 1]?.getD 0) → Below w.heap.size w W → Calls Tryz.prog 132 #[.pointer (some ⟨Bl, 0, none⟩)] W fun e W' => e = .returned (.bool ((qs L hy)[4]?.getD false)) ∧ Below W.heap.size W W'
  a6 : ∀ W, Qs W g Bl Bh Bf Bz v hy (L[0]?.getD 0) (L[L.length - 1]?.getD 0) → Below w.heap.size w W → Calls Tryz.prog 134 #[.pointer (some ⟨Bf, 0, none⟩)] W fun e W' => e = .returned (.bool ((qs L hy)[5]?.getD false)) ∧ Below W.heap.size W W'
  a7 : ∀ W, Qs W g Bl Bh Bf Bz v hy (L[0]?.getD 0) (L[L.length - 1]?.getD 0) → Below w.heap.size w W → Calls Tryz.prog 136 #[.pointer (some ⟨Bl, 0, none⟩)] W fun e W' => e = .returned (.bool ((qs L hy)[6]?.getD false)) ∧ Below W.heap.size W W'
  a8 : ∀ W, Qs W g Bl Bh Bf Bz v hy (L[0]?.getD 0) (L[L.length - 1]?.getD 0) → Below w.heap.size w W → Calls Tryz.prog 138 #[.pointer (some ⟨Bl, 0, none⟩)] W fun e W' => e = .returned (.bool ((qs L hy)[7]?.getD false)) ∧ Below W.heap.size W W'
theorem asks (w : World) (L : List Int) (hy : Bool) (v : Value) (g Bl Bh Bf Bz : Nat) (hlen : L.length ≤ 10000) (hv : N.Row21 w v L) (hcap : ∀ a n c, v = .slice a n c → n ≤ c) : Asks w L hy v g Bl Bh Bf Bz := by
  have hI : U.IntsAt w v L := N.u_ints hv
  exact ⟨fun W hQ hB => q1_any Bl v L W hlen hQ.l (hv.below hB), fun W hQ hB => q2_any Bl Bh v hy L W hlen hQ.l hQ.h (hI.below hB (Nat.le_refl _)), fun W hQ hB => q3_any Bh Bf Bz hy _ _ W hQ.h hQ.f hQ.z, fun W hQ hB => q4_any Bl v L W hlen hQ.l (hI.below hB (Nat.le_refl _)) hcap, fun W hQ hB => q5_any Bl v L W hlen hQ.l (hI.below hB (Nat.le_refl _)), fun W hQ hB => q6_any Bf _ W hQ.f, fun W hQ hB => q7_any Bl v L W hlen hQ.l (hI.below hB (Nat.le_refl _)), fun W hQ hB => q8_any Bl v L W hlen hQ.l (hI.below hB (Nat.le_refl _))⟩
theorem Row21_below {W W' : World} {v : Value} {zs : List Int} {n : Nat} (h : N.Row21 W v zs) (hb : Below W.heap.size W W') : N.Row21 W' v zs := h.below hb
set_option maxRecDepth 100000 in
set_option maxHeartbeats 16000000 in
theorem faults_some (v : Value) (hy : Bool) (L : List Int) (w : World) (hp : 0 < L.length) (hlen : L.length ≤ 10000) (hv : N.Row21 w v L) (hcap : ∀ a n c, v = .slice a n c → n ≤ c) :
    Calls Tryz.prog 63 #[v, .bool hy] w fun e W' => e = .returned (.int .u16 (sm 0 (qs L hy))) ∧ Below w.heap.size w W' := by
  have hI : U.IntsAt w v L := N.u_ints hv
  have HQ := hid (questions_any v hy L w hp hlen hI)
  have HA := hid (fun g Bl Bh Bf Bz => asks w L hy v g Bl Bh Bf Bz hlen hv hcap)
  obtain ⟨a, c, rfl, -⟩ := ints_form hI
  obtain ⟨x, hx⟩ : ∃ x, L[0]?.getD 0 = x := ⟨_, rfl⟩
  obtain ⟨y, hyy⟩ : ∃ y, L[L.length - 1]?.getD 0 = y := ⟨_, rfl⟩
  have HA2 : Hid (∀ g Bl Bh Bf Bz, Asks w L hy (.slice a L.length c) g Bl Bh Bf Bz) := HA.out
  obtain ⟨Q, hQ⟩ : ∃ Q, qs L hy = Q := ⟨_, rfl⟩
  have HL : Hid (Q.length = 8) := by show _ = _; rw [← hQ]; rfl
  have HQQ := hid hQ
  have HX := hid hx
  have HY := hid hyy
  rw [hx, hyy] at HQ
  rw [hQ]
  obtain ⟨n, hn⟩ : ∃ n, L.length = n := ⟨_, rfl⟩
  have HN := hid hn
  rw [hn] at HQ hp hlen ⊢
  have h0 : ((n : Int) == 0) = false := by simp; omega
  have h0z : ¬ ((n : Int) = 0) := by omega
  clear hx hyy hQ hv hI hcap hn HA
  go_enter Tryz.func63, Tryz.ntmps63
  go_wp2_with fail
  refine HQ.out.mono ?_
  rintro e w1 ⟨⟨g, Bl, Bh, Bf, Bz, rfl, hqs⟩, B1⟩
  have HS := hid hqs
  have HB1 := hid B1
  clear hqs B1 HQ
  go_wp2_with fail
  go_loopw [5, 15] (fun v5 v15 wr => ∃ (k : Nat) (s : Int), k ≤ 8 ∧ v5 = .int .u16 s ∧ v15 = .int .i64 k ∧ Hid (Sm Q k s) ∧ Hid (Qs wr g Bl Bh Bf Bz (.slice a n c) hy x y) ∧ Hid (Below w.heap.size w wr)) (fun _ v15 _ => 8 - (intOf v15).toNat)
  case atStart => exact ⟨0, 0, Nat.zero_le _, rfl, rfl, ⟨rfl, Int.le_refl _, by decide⟩, HS, HB1⟩
  case round =>
    clear HS HB1
    obtain ⟨k, s, hk, rfl, rfl, HM, HS, HB⟩ := hrel
    have HNO : Hid (∀ i, i < 8 → Q[i]? = some (Q[i]?.getD false)) := fun i hi => by
      have := HL.out
      rw [List.getElem?_eq_getElem (show i < Q.length by omega)]; rfl
    by_cases hlt : k < 8
    · have hcase : k = 0 ∨ k = 1 ∨ k = 2 ∨ k = 3 ∨ k = 4 ∨ k = 5 ∨ k = 6 ∨ k = 7 := by omega
      clear hlt hk
      rcases hcase with rfl | rfl | rfl | rfl | rfl | rfl | rfl | rfl
      · have hb := HS.out.cell 0 (.int .u16 1) rfl
        have hfn := HS.out.cell 1 (.func (.func 127) #[] #[.pointer (some ⟨Bl, 0, none⟩)]) rfl
        have hcall : Calls Tryz.prog 127 #[.pointer (some ⟨Bl, 0, none⟩)] (wr.alloc (.cells #[.int .u16 1, .func (.func 127) #[] #[.pointer (some ⟨Bl, 0, none⟩)]] 112)) fun e W' => e = .returned (.bool (Q[0]?.getD false)) ∧ Below (wr.alloc (.cells #[.int .u16 1, .func (.func 127) #[] #[.pointer (some ⟨Bl, 0, none⟩)]] 112)).heap.size (wr.alloc (.cells #[.int .u16 1, .func (.func 127) #[] #[.pointer (some ⟨Bl, 0, none⟩)]] 112)) W' := by
          have h1 := HS.out.alloc (.cells #[.int .u16 1, .func (.func 127) #[] #[.pointer (some ⟨Bl, 0, none⟩)]] 112)
          have h2 := (HA2.out g Bl Bh Bf Bz).a1 (wr.alloc (.cells #[.int .u16 1, .func (.func 127) #[] #[.pointer (some ⟨Bl, 0, none⟩)]] 112))
          rw [HX.out, HY.out, HN.out, HQQ.out] at h2
          exact h2 h1 (HB.out.alloc HB.out.size _)
        have HCall := hid hcall
        have HNX := hid (HNO.out 0 (by omega))
        obtain ⟨t, ht⟩ : ∃ t, Q[0]?.getD false = t := ⟨_, rfl⟩
        rw [ht] at HCall HNX
        clear hcall ht
        have HFIN : Hid (∀ W', Below (wr.alloc (.cells #[.int .u16 1, .func (.func 127) #[] #[.pointer (some ⟨Bl, 0, none⟩)]] 112)).heap.size (wr.alloc (.cells #[.int .u16 1, .func (.func 127) #[] #[.pointer (some ⟨Bl, 0, none⟩)]] 112)) W' → Qs W' g Bl Bh Bf Bz (.slice a n c) hy x y ∧ Below w.heap.size w W' ∧ W'.cell? ⟨wr.heap.size, 0, none⟩ = some (.int .u16 1)) := fun W' B => by
          have bb := HB.out.alloc HB.out.size (.cells #[.int .u16 1, .func (.func 127) #[] #[.pointer (some ⟨Bl, 0, none⟩)]] 112)
          refine ⟨(HS.out.alloc _).below B, bb.trans (B.mono bb.size), ?_⟩
          rw [B.cell (p := ⟨wr.heap.size, 0, none⟩) (by simp)]
          simp only [World.cell?, World.alloc_heap_new]; rfl
        cases t with
        | true =>
          have HM2 := hid (HM.out.yes (by omega) HNX.out)
          go_wp2_with (go_at_call 127; refine HCall.out.mono ?_; rintro e w4 ⟨rfl, B4⟩; obtain ⟨hS4, hB4, hc4⟩ := HFIN.out _ B4; have HS4 := hid hS4; have HB4 := hid hB4; clear hS4 hB4 B4)
          go_roundw
          case rel => exact ⟨1, _, by omega, rfl, by first | rfl | go_num, HM2, HS4, HB4⟩
          case measure => simp [intOf]
        | false =>
          have HM2 := hid (HM.out.no HNX.out)
          go_wp2_with (go_at_call 127; refine HCall.out.mono ?_; rintro e w4 ⟨rfl, B4⟩; obtain ⟨hS4, hB4, hc4⟩ := HFIN.out _ B4; have HS4 := hid hS4; have HB4 := hid hB4; clear hS4 hB4 B4)
          go_roundw
          case rel => exact ⟨1, _, by omega, rfl, by first | rfl | go_num, HM2, HS4, HB4⟩
          case measure => simp [intOf]
      · have hb := HS.out.cell 2 (.int .u16 2) rfl
        have hfn := HS.out.cell 3 (.func (.func 129) #[] #[.pointer (some ⟨Bh, 0, none⟩), .pointer (some ⟨Bl, 0, none⟩)]) rfl
        have hcall : Calls Tryz.prog 129 #[.pointer (some ⟨Bh, 0, none⟩), .pointer (some ⟨Bl, 0, none⟩)] (wr.alloc (.cells #[.int .u16 2, .func (.func 129) #[] #[.pointer (some ⟨Bh, 0, none⟩), .pointer (some ⟨Bl, 0, none⟩)]] 112)) fun e W' => e = .returned (.bool (Q[1]?.getD false)) ∧ Below (wr.alloc (.cells #[.int .u16 2, .func (.func 129) #[] #[.pointer (some ⟨Bh, 0, none⟩), .pointer (some ⟨Bl, 0, none⟩)]] 112)).heap.size (wr.alloc (.cells #[.int .u16 2, .func (.func 129) #[] #[.pointer (some ⟨Bh, 0, none⟩), .pointer (some ⟨Bl, 0, none⟩)]] 112)) W' := by
          have h1 := HS.out.alloc (.cells #[.int .u16 2, .func (.func 129) #[] #[.pointer (some ⟨Bh, 0, none⟩), .pointer (some ⟨Bl, 0, none⟩)]] 112)
          have h2 := (HA2.out g Bl Bh Bf Bz).a2 (wr.alloc (.cells #[.int .u16 2, .func (.func 129) #[] #[.pointer (some ⟨Bh, 0, none⟩), .pointer (some ⟨Bl, 0, none⟩)]] 112))
          rw [HX.out, HY.out, HN.out, HQQ.out] at h2
          exact h2 h1 (HB.out.alloc HB.out.size _)
        have HCall := hid hcall
        have HNX := hid (HNO.out 1 (by omega))
        obtain ⟨t, ht⟩ : ∃ t, Q[1]?.getD false = t := ⟨_, rfl⟩
        rw [ht] at HCall HNX
        clear hcall ht
        have HFIN : Hid (∀ W', Below (wr.alloc (.cells #[.int .u16 2, .func (.func 129) #[] #[.pointer (some ⟨Bh, 0, none⟩), .pointer (some ⟨Bl, 0, none⟩)]] 112)).heap.size (wr.alloc (.cells #[.int .u16 2, .func (.func 129) #[] #[.pointer (some ⟨Bh, 0, none⟩), .pointer (some ⟨Bl, 0, none⟩)]] 112)) W' → Qs W' g Bl Bh Bf Bz (.slice a n c) hy x y ∧ Below w.heap.size w W' ∧ W'.cell? ⟨wr.heap.size, 0, none⟩ = some (.int .u16 2)) := fun W' B => by
          have bb := HB.out.alloc HB.out.size (.cells #[.int .u16 2, .func (.func 129) #[] #[.pointer (some ⟨Bh, 0, none⟩), .pointer (some ⟨Bl, 0, none⟩)]] 112)
          refine ⟨(HS.out.alloc _).below B, bb.trans (B.mono bb.size), ?_⟩
          rw [B.cell (p := ⟨wr.heap.size, 0, none⟩) (by simp)]
          simp only [World.cell?, World.alloc_heap_new]; rfl
        cases t with
        | true =>
          have HM2 := hid (HM.out.yes (by omega) HNX.out)
          go_wp2_with (go_at_call 129; refine HCall.out.mono ?_; rintro e w4 ⟨rfl, B4⟩; obtain ⟨hS4, hB4, hc4⟩ := HFIN.out _ B4; have HS4 := hid hS4; have HB4 := hid hB4; clear hS4 hB4 B4)
          go_roundw
          case rel => exact ⟨2, _, by omega, rfl, by first | rfl | go_num, HM2, HS4, HB4⟩
          case measure => simp [intOf]
        | false =>
          have HM2 := hid (HM.out.no HNX.out)
          go_wp2_with (go_at_call 129; refine HCall.out.mono ?_; rintro e w4 ⟨rfl, B4⟩; obtain ⟨hS4, hB4, hc4⟩ := HFIN.out _ B4; have HS4 := hid hS4; have HB4 := hid hB4; clear hS4 hB4 B4)
          go_roundw
          case rel => exact ⟨2, _, by omega, rfl, by first | rfl | go_num, HM2, HS4, HB4⟩
          case measure => simp [intOf]
      · have hb := HS.out.cell 4 (.int .u16 4) rfl
        have hfn := HS.out.cell 5 (.func (.func 130) #[] #[.pointer (some ⟨Bh, 0, none⟩), .pointer (some ⟨Bf, 0, none⟩), .pointer (some ⟨Bz, 0, none⟩)]) rfl
        have hcall : Calls Tryz.prog 130 #[.pointer (some ⟨Bh, 0, none⟩), .pointer (some ⟨Bf, 0, none⟩), .pointer (some ⟨Bz, 0, none⟩)] (wr.alloc (.cells #[.int .u16 4, .func (.func 130) #[] #[.pointer (some ⟨Bh, 0, none⟩), .pointer (some ⟨Bf, 0, none⟩), .pointer (some ⟨Bz, 0, none⟩)]] 112)) fun e W' => e = .returned (.bool (Q[2]?.getD false)) ∧ Below (wr.alloc (.cells #[.int .u16 4, .func (.func 130) #[] #[.pointer (some ⟨Bh, 0, none⟩), .pointer (some ⟨Bf, 0, none⟩), .pointer (some ⟨Bz, 0, none⟩)]] 112)).heap.size (wr.alloc (.cells #[.int .u16 4, .func (.func 130) #[] #[.pointer (some ⟨Bh, 0, none⟩), .pointer (some ⟨Bf, 0, none⟩), .pointer (some ⟨Bz, 0, none⟩)]] 112)) W' := by
          have h1 := HS.out.alloc (.cells #[.int .u16 4, .func (.func 130) #[] #[.pointer (some ⟨Bh, 0, none⟩), .pointer (some ⟨Bf, 0, none⟩), .pointer (some ⟨Bz, 0, none⟩)]] 112)
          have h2 := (HA2.out g Bl Bh Bf Bz).a3 (wr.alloc (.cells #[.int .u16 4, .func (.func 130) #[] #[.pointer (some ⟨Bh, 0, none⟩), .pointer (some ⟨Bf, 0, none⟩), .pointer (some ⟨Bz, 0, none⟩)]] 112))
          rw [HX.out, HY.out, HN.out, HQQ.out] at h2
          exact h2 h1 (HB.out.alloc HB.out.size _)
        have HCall := hid hcall
        have HNX := hid (HNO.out 2 (by omega))
        obtain ⟨t, ht⟩ : ∃ t, Q[2]?.getD false = t := ⟨_, rfl⟩
        rw [ht] at HCall HNX
        clear hcall ht
        have HFIN : Hid (∀ W', Below (wr.alloc (.cells #[.int .u16 4, .func (.func 130) #[] #[.pointer (some ⟨Bh, 0, none⟩), .pointer (some ⟨Bf, 0, none⟩), .pointer (some ⟨Bz, 0, none⟩)]] 112)).heap.size (wr.alloc (.cells #[.int .u16 4, .func (.func 130) #[] #[.pointer (some ⟨Bh, 0, none⟩), .pointer (some ⟨Bf, 0, none⟩), .pointer (some ⟨Bz, 0, none⟩)]] 112)) W' → Qs W' g Bl Bh Bf Bz (.slice a n c) hy x y ∧ Below w.heap.size w W' ∧ W'.cell? ⟨wr.heap.size, 0, none⟩ = some (.int .u16 4)) := fun W' B => by
          have bb := HB.out.alloc HB.out.size (.cells #[.int .u16 4, .func (.func 130) #[] #[.pointer (some ⟨Bh, 0, none⟩), .pointer (some ⟨Bf, 0, none⟩), .pointer (some ⟨Bz, 0, none⟩)]] 112)
          refine ⟨(HS.out.alloc _).below B, bb.trans (B.mono bb.size), ?_⟩
          rw [B.cell (p := ⟨wr.heap.size, 0, none⟩) (by simp)]
          simp only [World.cell?, World.alloc_heap_new]; rfl
        cases t with
        | true =>
          have HM2 := hid (HM.out.yes (by omega) HNX.out)
          go_wp2_with (go_at_call 130; refine HCall.out.mono ?_; rintro e w4 ⟨rfl, B4⟩; obtain ⟨hS4, hB4, hc4⟩ := HFIN.out _ B4; have HS4 := hid hS4; have HB4 := hid hB4; clear hS4 hB4 B4)
          go_roundw
          case rel => exact ⟨3, _, by omega, rfl, by first | rfl | go_num, HM2, HS4, HB4⟩
          case measure => simp [intOf]
        | false =>
          have HM2 := hid (HM.out.no HNX.out)
          go_wp2_with (go_at_call 130; refine HCall.out.mono ?_; rintro e w4 ⟨rfl, B4⟩; obtain ⟨hS4, hB4, hc4⟩ := HFIN.out _ B4; have HS4 := hid hS4; have HB4 := hid hB4; clear hS4 hB4 B4)
          go_roundw
          case rel => exact ⟨3, _, by omega, rfl, by first | rfl | go_num, HM2, HS4, HB4⟩
          case measure => simp [intOf]
      · have hb := HS.out.cell 6 (.int .u16 8) rfl
        have hfn := HS.out.cell 7 (.func (.func 131) #[] #[.pointer (some ⟨Bl, 0, none⟩)]) rfl
        have hcall : Calls Tryz.prog 131 #[.pointer (some ⟨Bl, 0, none⟩)] (wr.alloc (.cells #[.int .u16 8, .func (.func 131) #[] #[.pointer (some ⟨Bl, 0, none⟩)]] 112)) fun e W' => e = .returned (.bool (Q[3]?.getD false)) ∧ Below (wr.alloc (.cells #[.int .u16 8, .func (.func 131) #[] #[.pointer (some ⟨Bl, 0, none⟩)]] 112)).heap.size (wr.alloc (.cells #[.int .u16 8, .func (.func 131) #[] #[.pointer (some ⟨Bl, 0, none⟩)]] 112)) W' := by
          have h1 := HS.out.alloc (.cells #[.int .u16 8, .func (.func 131) #[] #[.pointer (some ⟨Bl, 0, none⟩)]] 112)
          have h2 := (HA2.out g Bl Bh Bf Bz).a4 (wr.alloc (.cells #[.int .u16 8, .func (.func 131) #[] #[.pointer (some ⟨Bl, 0, none⟩)]] 112))
          rw [HX.out, HY.out, HN.out, HQQ.out] at h2
          exact h2 h1 (HB.out.alloc HB.out.size _)
        have HCall := hid hcall
        have HNX := hid (HNO.out 3 (by omega))
        obtain ⟨t, ht⟩ : ∃ t, Q[3]?.getD false = t := ⟨_, rfl⟩
        rw [ht] at HCall HNX
        clear hcall ht
        have HFIN : Hid (∀ W', Below (wr.alloc (.cells #[.int .u16 8, .func (.func 131) #[] #[.pointer (some ⟨Bl, 0, none⟩)]] 112)).heap.size (wr.alloc (.cells #[.int .u16 8, .func (.func 131) #[] #[.pointer (some ⟨Bl, 0, none⟩)]] 112)) W' → Qs W' g Bl Bh Bf Bz (.slice a n c) hy x y ∧ Below w.heap.size w W' ∧ W'.cell? ⟨wr.heap.size, 0, none⟩ = some (.int .u16 8)) := fun W' B => by
          have bb := HB.out.alloc HB.out.size (.cells #[.int .u16 8, .func (.func 131) #[] #[.pointer (some ⟨Bl, 0, none⟩)]] 112)
          refine ⟨(HS.out.alloc _).below B, bb.trans (B.mono bb.size), ?_⟩
          rw [B.cell (p := ⟨wr.heap.size, 0, none⟩) (by simp)]
          simp only [World.cell?, World.alloc_heap_new]; rfl
        cases t with
        | true =>
          have HM2 := hid (HM.out.yes (by omega) HNX.out)
          go_wp2_with (go_at_call 131; refine HCall.out.mono ?_; rintro e w4 ⟨rfl, B4⟩; obtain ⟨hS4, hB4, hc4⟩ := HFIN.out _ B4; have HS4 := hid hS4; have HB4 := hid hB4; clear hS4 hB4 B4)
          go_roundw
          case rel => exact ⟨4, _, by omega, rfl, by first | rfl | go_num, HM2, HS4, HB4⟩
          case measure => simp [intOf]
        | false =>
          have HM2 := hid (HM.out.no HNX.out)
          go_wp2_with (go_at_call 131; refine HCall.out.mono ?_; rintro e w4 ⟨rfl, B4⟩; obtain ⟨hS4, hB4, hc4⟩ := HFIN.out _ B4; have HS4 := hid hS4; have HB4 := hid hB4; clear hS4 hB4 B4)
          go_roundw
          case rel => exact ⟨4, _, by omega, rfl, by first | rfl | go_num, HM2, HS4, HB4⟩
          case measure => simp [intOf]
      · have hb := HS.out.cell 8 (.int .u16 16) rfl
        have hfn := HS.out.cell 9 (.func (.func 132) #[] #[.pointer (some ⟨Bl, 0, none⟩)]) rfl
        have hcall : Calls Tryz.prog 132 #[.pointer (some ⟨Bl, 0, none⟩)] (wr.alloc (.cells #[.int .u16 16, .func (.func 132) #[] #[.pointer (some ⟨Bl, 0, none⟩)]] 112)) fun e W' => e = .returned (.bool (Q[4]?.getD false)) ∧ Below (wr.alloc (.cells #[.int .u16 16, .func (.func 132) #[] #[.pointer (some ⟨Bl, 0, none⟩)]] 112)).heap.size (wr.alloc (.cells #[.int .u16 16, .func (.func 132) #[] #[.pointer (some ⟨Bl, 0, none⟩)]] 112)) W' := by
          have h1 := HS.out.alloc (.cells #[.int .u16 16, .func (.func 132) #[] #[.pointer (some ⟨Bl, 0, none⟩)]] 112)
          have h2 := (HA2.out g Bl Bh Bf Bz).a5 (wr.alloc (.cells #[.int .u16 16, .func (.func 132) #[] #[.pointer (some ⟨Bl, 0, none⟩)]] 112))
          rw [HX.out, HY.out, HN.out, HQQ.out] at h2
          exact h2 h1 (HB.out.alloc HB.out.size _)
        have HCall := hid hcall
        have HNX := hid (HNO.out 4 (by omega))
        obtain ⟨t, ht⟩ : ∃ t, Q[4]?.getD false = t := ⟨_, rfl⟩
        rw [ht] at HCall HNX
        clear hcall ht
        have HFIN : Hid (∀ W', Below (wr.alloc (.cells #[.int .u16 16, .func (.func 132) #[] #[.pointer (some ⟨Bl, 0, none⟩)]] 112)).heap.size (wr.alloc (.cells #[.int .u16 16, .func (.func 132) #[] #[.pointer (some ⟨Bl, 0, none⟩)]] 112)) W' → Qs W' g Bl Bh Bf Bz (.slice a n c) hy x y ∧ Below w.heap.size w W' ∧ W'.cell? ⟨wr.heap.size, 0, none⟩ = some (.int .u16 16)) := fun W' B => by
          have bb := HB.out.alloc HB.out.size (.cells #[.int .u16 16, .func (.func 132) #[] #[.pointer (some ⟨Bl, 0, none⟩)]] 112)
          refine ⟨(HS.out.alloc _).below B, bb.trans (B.mono bb.size), ?_⟩
          rw [B.cell (p := ⟨wr.heap.size, 0, none⟩) (by simp)]
          simp only [World.cell?, World.alloc_heap_new]; rfl
        cases t with
        | true =>
          have HM2 := hid (HM.out.yes (by omega) HNX.out)
          go_wp2_with (go_at_call 132; refine HCall.out.mono ?_; rintro e w4 ⟨rfl, B4⟩; obtain ⟨hS4, hB4, hc4⟩ := HFIN.out _ B4; have HS4 := hid hS4; have HB4 := hid hB4; clear hS4 hB4 B4)
          go_roundw
          case rel => exact ⟨5, _, by omega, rfl, by first | rfl | go_num, HM2, HS4, HB4⟩
          case measure => simp [intOf]
        | false =>
          have HM2 := hid (HM.out.no HNX.out)
          go_wp2_with (go_at_call 132; refine HCall.out.mono ?_; rintro e w4 ⟨rfl, B4⟩; obtain ⟨hS4, hB4, hc4⟩ := HFIN.out _ B4; have HS4 := hid hS4; have HB4 := hid hB4; clear hS4 hB4 B4)
          go_roundw
          case rel => exact ⟨5, _, by omega, rfl, by first | rfl | go_num, HM2, HS4, HB4⟩
          case measure => simp [intOf]
      · have hb := HS.out.cell 10 (.int .u16 32) rfl
        have hfn := HS.out.cell 11 (.func (.func 134) #[] #[.pointer (some ⟨Bf, 0, none⟩)]) rfl
        have hcall : Calls Tryz.prog 134 #[.pointer (some ⟨Bf, 0, none⟩)] (wr.alloc (.cells #[.int .u16 32, .func (.func 134) #[] #[.pointer (some ⟨Bf, 0, none⟩)]] 112)) fun e W' => e = .returned (.bool (Q[5]?.getD false)) ∧ Below (wr.alloc (.cells #[.int .u16 32, .func (.func 134) #[] #[.pointer (some ⟨Bf, 0, none⟩)]] 112)).heap.size (wr.alloc (.cells #[.int .u16 32, .func (.func 134) #[] #[.pointer (some ⟨Bf, 0, none⟩)]] 112)) W' := by
          have h1 := HS.out.alloc (.cells #[.int .u16 32, .func (.func 134) #[] #[.pointer (some ⟨Bf, 0, none⟩)]] 112)
          have h2 := (HA2.out g Bl Bh Bf Bz).a6 (wr.alloc (.cells #[.int .u16 32, .func (.func 134) #[] #[.pointer (some ⟨Bf, 0, none⟩)]] 112))
          rw [HX.out, HY.out, HN.out, HQQ.out] at h2
          exact h2 h1 (HB.out.alloc HB.out.size _)
        have HCall := hid hcall
        have HNX := hid (HNO.out 5 (by omega))
        obtain ⟨t, ht⟩ : ∃ t, Q[5]?.getD false = t := ⟨_, rfl⟩
        rw [ht] at HCall HNX
        clear hcall ht
        have HFIN : Hid (∀ W', Below (wr.alloc (.cells #[.int .u16 32, .func (.func 134) #[] #[.pointer (some ⟨Bf, 0, none⟩)]] 112)).heap.size (wr.alloc (.cells #[.int .u16 32, .func (.func 134) #[] #[.pointer (some ⟨Bf, 0, none⟩)]] 112)) W' → Qs W' g Bl Bh Bf Bz (.slice a n c) hy x y ∧ Below w.heap.size w W' ∧ W'.cell? ⟨wr.heap.size, 0, none⟩ = some (.int .u16 32)) := fun W' B => by
          have bb := HB.out.alloc HB.out.size (.cells #[.int .u16 32, .func (.func 134) #[] #[.pointer (some ⟨Bf, 0, none⟩)]] 112)
          refine ⟨(HS.out.alloc _).below B, bb.trans (B.mono bb.size), ?_⟩
          rw [B.cell (p := ⟨wr.heap.size, 0, none⟩) (by simp)]
          simp only [World.cell?, World.alloc_heap_new]; rfl
        cases t with
        | true =>
          have HM2 := hid (HM.out.yes (by omega) HNX.out)
          go_wp2_with (go_at_call 134; refine HCall.out.mono ?_; rintro e w4 ⟨rfl, B4⟩; obtain ⟨hS4, hB4, hc4⟩ := HFIN.out _ B4; have HS4 := hid hS4; have HB4 := hid hB4; clear hS4 hB4 B4)
          go_roundw
          case rel => exact ⟨6, _, by omega, rfl, by first | rfl | go_num, HM2, HS4, HB4⟩
          case measure => simp [intOf]
        | false =>
          have HM2 := hid (HM.out.no HNX.out)
          go_wp2_with (go_at_call 134; refine HCall.out.mono ?_; rintro e w4 ⟨rfl, B4⟩; obtain ⟨hS4, hB4, hc4⟩ := HFIN.out _ B4; have HS4 := hid hS4; have HB4 := hid hB4; clear hS4 hB4 B4)
          go_roundw
          case rel => exact ⟨6, _, by omega, rfl, by first | rfl | go_num, HM2, HS4, HB4⟩
          case measure => simp [intOf]
      · have hb := HS.out.cell 12 (.int .u16 64) rfl
        have hfn := HS.out.cell 13 (.func (.func 136) #[] #[.pointer (some ⟨Bl, 0, none⟩)]) rfl
        have hcall : Calls Tryz.prog 136 #[.pointer (some ⟨Bl, 0, none⟩)] (wr.alloc (.cells #[.int .u16 64, .func (.func 136) #[] #[.pointer (some ⟨Bl, 0, none⟩)]] 112)) fun e W' => e = .returned (.bool (Q[6]?.getD false)) ∧ Below (wr.alloc (.cells #[.int .u16 64, .func (.func 136) #[] #[.pointer (some ⟨Bl, 0, none⟩)]] 112)).heap.size (wr.alloc (.cells #[.int .u16 64, .func (.func 136) #[] #[.pointer (some ⟨Bl, 0, none⟩)]] 112)) W' := by
          have h1 := HS.out.alloc (.cells #[.int .u16 64, .func (.func 136) #[] #[.pointer (some ⟨Bl, 0, none⟩)]] 112)
          have h2 := (HA2.out g Bl Bh Bf Bz).a7 (wr.alloc (.cells #[.int .u16 64, .func (.func 136) #[] #[.pointer (some ⟨Bl, 0, none⟩)]] 112))
          rw [HX.out, HY.out, HN.out, HQQ.out] at h2
          exact h2 h1 (HB.out.alloc HB.out.size _)
        have HCall := hid hcall
        have HNX := hid (HNO.out 6 (by omega))
        obtain ⟨t, ht⟩ : ∃ t, Q[6]?.getD false = t := ⟨_, rfl⟩
        rw [ht] at HCall HNX
        clear hcall ht
        have HFIN : Hid (∀ W', Below (wr.alloc (.cells #[.int .u16 64, .func (.func 136) #[] #[.pointer (some ⟨Bl, 0, none⟩)]] 112)).heap.size (wr.alloc (.cells #[.int .u16 64, .func (.func 136) #[] #[.pointer (some ⟨Bl, 0, none⟩)]] 112)) W' → Qs W' g Bl Bh Bf Bz (.slice a n c) hy x y ∧ Below w.heap.size w W' ∧ W'.cell? ⟨wr.heap.size, 0, none⟩ = some (.int .u16 64)) := fun W' B => by
          have bb := HB.out.alloc HB.out.size (.cells #[.int .u16 64, .func (.func 136) #[] #[.pointer (some ⟨Bl, 0, none⟩)]] 112)
          refine ⟨(HS.out.alloc _).below B, bb.trans (B.mono bb.size), ?_⟩
          rw [B.cell (p := ⟨wr.heap.size, 0, none⟩) (by simp)]
          simp only [World.cell?, World.alloc_heap_new]; rfl
        cases t with
        | true =>
          have HM2 := hid (HM.out.yes (by omega) HNX.out)
          go_wp2_with (go_at_call 136; refine HCall.out.mono ?_; rintro e w4 ⟨rfl, B4⟩; obtain ⟨hS4, hB4, hc4⟩ := HFIN.out _ B4; have HS4 := hid hS4; have HB4 := hid hB4; clear hS4 hB4 B4)
          go_roundw
          case rel => exact ⟨7, _, by omega, rfl, by first | rfl | go_num, HM2, HS4, HB4⟩
          case measure => simp [intOf]
        | false =>
          have HM2 := hid (HM.out.no HNX.out)
          go_wp2_with (go_at_call 136; refine HCall.out.mono ?_; rintro e w4 ⟨rfl, B4⟩; obtain ⟨hS4, hB4, hc4⟩ := HFIN.out _ B4; have HS4 := hid hS4; have HB4 := hid hB4; clear hS4 hB4 B4)
          go_roundw
          case rel => exact ⟨7, _, by omega, rfl, by first | rfl | go_num, HM2, HS4, HB4⟩
          case measure => simp [intOf]
      · have hb := HS.out.cell 14 (.int .u16 128) rfl
        have hfn := HS.out.cell 15 (.func (.func 138) #[] #[.pointer (some ⟨Bl, 0, none⟩)]) rfl
        have hcall : Calls Tryz.prog 138 #[.pointer (some ⟨Bl, 0, none⟩)] (wr.alloc (.cells #[.int .u16 128, .func (.func 138) #[] #[.pointer (some ⟨Bl, 0, none⟩)]] 112)) fun e W' => e = .returned (.bool (Q[7]?.getD false)) ∧ Below (wr.alloc (.cells #[.int .u16 128, .func (.func 138) #[] #[.pointer (some ⟨Bl, 0, none⟩)]] 112)).heap.size (wr.alloc (.cells #[.int .u16 128, .func (.func 138) #[] #[.pointer (some ⟨Bl, 0, none⟩)]] 112)) W' := by
          have h1 := HS.out.alloc (.cells #[.int .u16 128, .func (.func 138) #[] #[.pointer (some ⟨Bl, 0, none⟩)]] 112)
          have h2 := (HA2.out g Bl Bh Bf Bz).a8 (wr.alloc (.cells #[.int .u16 128, .func (.func 138) #[] #[.pointer (some ⟨Bl, 0, none⟩)]] 112))
          rw [HX.out, HY.out, HN.out, HQQ.out] at h2
          exact h2 h1 (HB.out.alloc HB.out.size _)
        have HCall := hid hcall
        have HNX := hid (HNO.out 7 (by omega))
        obtain ⟨t, ht⟩ : ∃ t, Q[7]?.getD false = t := ⟨_, rfl⟩
        rw [ht] at HCall HNX
        clear hcall ht
        have HFIN : Hid (∀ W', Below (wr.alloc (.cells #[.int .u16 128, .func (.func 138) #[] #[.pointer (some ⟨Bl, 0, none⟩)]] 112)).heap.size (wr.alloc (.cells #[.int .u16 128, .func (.func 138) #[] #[.pointer (some ⟨Bl, 0, none⟩)]] 112)) W' → Qs W' g Bl Bh Bf Bz (.slice a n c) hy x y ∧ Below w.heap.size w W' ∧ W'.cell? ⟨wr.heap.size, 0, none⟩ = some (.int .u16 128)) := fun W' B => by
          have bb := HB.out.alloc HB.out.size (.cells #[.int .u16 128, .func (.func 138) #[] #[.pointer (some ⟨Bl, 0, none⟩)]] 112)
          refine ⟨(HS.out.alloc _).below B, bb.trans (B.mono bb.size), ?_⟩
          rw [B.cell (p := ⟨wr.heap.size, 0, none⟩) (by simp)]
          simp only [World.cell?, World.alloc_heap_new]; rfl
        cases t with
        | true =>
          have HM2 := hid (HM.out.yes (by omega) HNX.out)
          go_wp2_with (go_at_call 138; refine HCall.out.mono ?_; rintro e w4 ⟨rfl, B4⟩; obtain ⟨hS4, hB4, hc4⟩ := HFIN.out _ B4; have HS4 := hid hS4; have HB4 := hid hB4; clear hS4 hB4 B4)
          go_roundw
          case rel => exact ⟨8, _, by omega, rfl, by first | rfl | go_num, HM2, HS4, HB4⟩
          case measure => simp [intOf]
        | false =>
          have HM2 := hid (HM.out.no HNX.out)
          go_wp2_with (go_at_call 138; refine HCall.out.mono ?_; rintro e w4 ⟨rfl, B4⟩; obtain ⟨hS4, hB4, hc4⟩ := HFIN.out _ B4; have HS4 := hid hS4; have HB4 := hid hB4; clear hS4 hB4 B4)
          go_roundw
          case rel => exact ⟨8, _, by omega, rfl, by first | rfl | go_num, HM2, HS4, HB4⟩
          case measure => simp [intOf]
    · obtain rfl : k = 8 := by omega
      have HE : Hid (sm 0 Q = s) := by
        show _ = _
        rw [HM.out.eq, List.take_of_length_le (by rw [HL.out]; exact Nat.le_refl _)]
      go_wp2
      go_ret
      exact ⟨by rw [HE.out]; rfl, HB.out⟩
set_option maxRecDepth 100000 in
set_option maxHeartbeats 1000000 in
theorem faults_any (v : Value) (hy : Bool) (L : List Int) (w : World) (hlen : L.length ≤ 10000) (hv : N.Row21 w v L) (hcap : ∀ a n c, v = .slice a n c → n ≤ c) :
    Calls Tryz.prog 63 #[v, .bool hy] w fun e W' => e = .returned (.int .u16 (flt L hy)) ∧ Below w.heap.size w W' := by
  by_cases h0 : L.length = 0
  · obtain ⟨a, c, rfl, -⟩ := hv
    unfold flt
    rw [if_pos h0, h0]
    clear hcap hlen h0
    go_enter Tryz.func63, Tryz.ntmps63
    go_wp2
    go_ret
    exact ⟨rfl, Below.refl _ _⟩
  · unfold flt
    rw [if_neg h0]
    exact faults_some v hy L w (by omega) hlen hv hcap
end Go.Proofs.YtdncaehajhmcoaaGreat.L
