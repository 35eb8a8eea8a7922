/- Texts of one layer, one behind the other: KL KF KE. -/
import Derived.Test.YtdncaehajhmcoaaGreatZK2
import Derived.Test.YtdncaehajhmcoaaGreatZJ6
import Derived.Test.YtdncaehajhmcoaaGreatZL7
/- mustFit: what is too long ends it by a panic. -/
namespace Go.Proofs.YtdncaehajhmcoaaGreat.I
open Go.RowKit
set_option linter.unusedVariables false

theorem sizeOfS (W : World) : (sizeOf (Tryz.prog.elem 46)).run Tryz.prog W = .ok 1 W := by kernel_rfl
theorem slice_h (g n c m : Nat) (h : m ≤ c) (W : World) : (Instr.slice 46 (.slice (some ⟨g, 0, none⟩) n c) none (some (.int .i64 (m : Int))) none).run Tryz.prog W = .ok (.slice (some ⟨g, 0, none⟩) m c) W := by
  rw [run_slice_h W 46 (some ⟨g, 0, none⟩) n c (by kernel_rfl) .i64 (m : Int) (by omega) (by omega), sizeOfS W]
  simp only [Result.andThen, sliced, Int.toNat_natCast]
  congr 1
  simp [Addr.add]
def MfR (ps : List (List Int)) (e : Ending) : Prop := (¬ badL ps ∧ e = .returned (.tuple #[])) ∨ (badL ps ∧ e = .panicked (wrongV 4))
theorem join_len' : ∀ (ls : List (List Int)) (B : Nat), (∀ l ∈ ls, l.length ≤ B) → (join ls).length ≤ ls.length * (B + 1) := join_len
theorem okl_bn {t : ByteArray} : okl (U.bn t) ↔ ¬ t.size = 0 ∧ t.size ≤ 63 := by
  unfold okl
  rw [U.bn_length]
  constructor
  · rintro ⟨h1, h2⟩
    exact ⟨fun h => h1 (List.length_eq_zero_iff.1 (by rw [U.bn_length]; exact h)), h2⟩
  · rintro ⟨h1, h2⟩
    exact ⟨fun h => h1 (by rw [← U.bn_length, h]; rfl), h2⟩
theorem take_mem {ps : List (List Int)} {m : Nat} {ts : List ByteArray} (hps : ps = ts.map U.bn) (hm : m ≤ ts.length) : (∀ j, j < m → okl (U.bn (ts[j]?.getD ⟨#[]⟩))) → ∀ p ∈ ps.take m, okl p := by
  intro h p hp
  obtain ⟨j, hj, e⟩ := List.mem_take_iff_getElem.1 hp
  subst hps
  rw [List.length_map] at hj
  have := h j (by omega)
  rw [List.getElem?_eq_getElem (by omega)] at this
  rw [← e, List.getElem_map]
  exact this
theorem mem_take_at {ps : List (List Int)} {m : Nat} {ts : List ByteArray} (hps : ps = ts.map U.bn) (hm : m ≤ ts.length) (k : Nat) (hk : k < m) : U.bn (ts[k]?.getD ⟨#[]⟩) ∈ ps.take m := by
  subst hps
  rw [List.getElem?_eq_getElem (by omega)]
  exact List.mem_take_iff_getElem.2 ⟨k, by rw [List.length_map]; omega, by rw [List.getElem_map]; rfl⟩
set_option maxRecDepth 100000 in
set_option maxHeartbeats 8000000 in
theorem mustFit_any (g n c : Nat) (ts : List ByteArray) (w : World) (hn : ts.length = n) (hp : 0 < n) (hnc : n ≤ c) (hnb : n ≤ 10000) (hb : ∀ t ∈ ts, t.size ≤ 20000) (hc : ∀ j, j < n → w.cell? ⟨g, j, none⟩ = some (.string (ts[j]?.getD ⟨#[]⟩))) :
    Calls Tryz.prog 24 #[.slice (some ⟨g, 0, none⟩) n c] w fun e W' => MfR (ts.map U.bn) e ∧ Below w.heap.size w W' := by
  obtain ⟨ps, hps⟩ : ∃ ps, ts.map U.bn = ps := ⟨_, rfl⟩
  have hpl : ps.length = n := by rw [← hps, List.length_map]; exact hn
  have HC := hid hc
  have HTS := hid hn
  have HPS := hid hps.symm
  have HSZ : Hid (∀ j, j < n → (ts[j]?.getD ⟨#[]⟩).size ≤ 20000) := fun j hj => by
    rw [List.getElem?_eq_getElem (show j < ts.length by omega)]
    exact hb _ (List.getElem_mem _)
  have HLE := hid (lastE_at hpl)
  have HPN : Hid (ps[n - 1]?.getD [] = U.bn (ts[n - 1]?.getD ⟨#[]⟩)) := by
    show _ = _
    rw [← hps, List.getElem?_map, List.getElem?_eq_getElem (show n - 1 < ts.length by omega)]; rfl
  have HJL : Hid (∀ m, m ≤ n → (join ((ts.take m).map U.bn)).length ≤ 1000000000) := fun m hm => by
    have h1 := join_len ((ts.take m).map U.bn) 20000 (fun l hl => by
      obtain ⟨t, ht, rfl⟩ := List.mem_map.1 hl
      rw [U.bn_length]
      exact hb t (List.mem_of_mem_take ht))
    rw [List.length_map, List.length_take] at h1
    have h2 : min m ts.length * (20000 + 1) ≤ 10000 * 20001 := Nat.mul_le_mul (by omega) (by omega)
    omega
  have HTM : Hid (∀ m, (ts.take m).map U.bn = ps.take m) := fun m => by rw [← hps, List.map_take]
  rw [hps]
  have hcl := HC.out (n - 1) (by omega)
  have hszl := HSZ.out (n - 1) (by omega)
  obtain ⟨tl, htl⟩ : ∃ tl, ts[n - 1]?.getD ⟨#[]⟩ = tl := ⟨_, rfl⟩
  rw [htl] at hcl HPN hszl
  clear hn hps hc hb htl hpl
  obtain ⟨n1, hn1⟩ : ∃ n1, n - 1 = n1 := ⟨_, rfl⟩
  rw [hn1] at hcl HPN HLE
  have HNN : Hid (n = n1 + 1) := by show _ = _; omega
  have hz : (n : Int) - 1 = (n1 : Int) := by omega
  have hw : IntKind.i64.wrap (n1 : Int) = (n1 : Int) := by simp [IntKind.wrap, IntKind.bits, IntKind.signed]; omega
  have hn1n : n1 < n := by omega
  clear hn1
  by_cases hl : lastE ps
  · have h1 := HLE.out.1 hl
    have HCP : Hid (cps ps = ps.take n1) := by
      show _ = _
      unfold cps
      rw [if_pos hl]
      congr 1
      have := congrArg List.length HPS.out
      rw [List.length_map, HTS.out] at this
      have := HNN.out
      omega
    have htz : tl.size = 0 := by
      have h2 := h1.2
      rw [HPN.out] at h2
      rw [← U.bn_length, h2]; rfl
    have e0 : (tl.toList == []) = true := by rw [empty_list]; exact decide_eq_true htz
    have hn1z : (0 : Int) < (n1 : Int) := by omega
    have hsl := fun W => slice_h g n c n1 (by omega) W
    have HMM : Hid (n1 ≤ n) := Nat.le_of_lt hn1n
    have HM0 : Hid (0 < n1) := by show 0 < n1; omega
    clear h1 hl htz HLE HPN hszl
    go_enter Tryz.func24, Tryz.ntmps24
    go_wp2_with fail
    go_loop [22] (fun v22 => ∃ k : Nat, k ≤ n1 ∧ v22 = .int .i64 k ∧ Hid (∀ j, j < k → okl (U.bn (ts[j]?.getD ⟨#[]⟩)))) (fun v22 => n1 - (intOf v22).toNat)
    case atStart => exact ⟨0, Nat.zero_le _, rfl, (fun j hj => by omega)⟩
    case round =>
      obtain ⟨k, hk, rfl, HA⟩ := hrel
      by_cases hlt : k < n1
      · have hck := HC.out k (by have := HMM.out; omega)
        have hsz := HSZ.out k (by have := HMM.out; omega)
        have HIN := hid (mem_take_at HPS.out (m := n1) (by rw [HTS.out]; exact HMM.out) k hlt)
        have HS : Hid (okl (U.bn (ts[k]?.getD ⟨#[]⟩)) → ∀ j, j < k + 1 → okl (U.bn (ts[j]?.getD ⟨#[]⟩))) := fun h j hj => by
          by_cases e : j = k
          · rw [e]; exact h
          · exact HA.out j (by omega)
        obtain ⟨t, ht⟩ : ∃ t, ts[k]?.getD ⟨#[]⟩ = t := ⟨_, rfl⟩
        rw [ht] at hck hsz HIN HS
        clear ht
        by_cases hz : t.size = 0
        · have e1 : (t.toList == []) = true := by rw [empty_list]; exact decide_eq_true hz
          have HBAD : Hid (badL ps) := .inl ⟨_, by rw [HCP.out]; exact HIN.out, fun h => (okl_bn.1 h).1 hz⟩
          have HZ := hid hz
          clear hz
          go_wp2
          all_goals exact ⟨rfl, .inr ⟨HBAD.out, rfl⟩, Below.refl _ _⟩
        · have e1 : (t.toList == []) = false := by rw [empty_list]; exact decide_eq_false hz
          by_cases h63 : 63 < t.size
          · have HBAD : Hid (badL ps) := .inl ⟨_, by rw [HCP.out]; exact HIN.out, fun h => by have := (okl_bn.1 h).2; omega⟩
            go_wp2
            exact ⟨rfl, .inr ⟨HBAD.out, rfl⟩, Below.refl _ _⟩
          · have HN := hid (HS.out (okl_bn.2 ⟨hz, by omega⟩))
            go_wp2
            exact ⟨⟨k + 1, by omega, by go_num, HN⟩, by simp [intOf]; omega⟩
      · have hkM : ¬ (k : Int) < (n1 : Int) := by omega
        have HALL := hid (take_mem HPS.out (m := n1) (by rw [HTS.out]; exact HMM.out) (fun j hj => HA.out j (by omega)))
        have HJ := hid (join_any g c (n1) (ts.take (n1)) (by rw [List.length_take, HTS.out]; have := HMM.out; omega) w (fun j hj => by rw [List.getElem?_take_of_lt hj]; exact HC.out j (by have := HMM.out; omega)) HM0.out (by have := HMM.out; omega) (by have := HMM.out; omega) (HJL.out _ HMM.out))
        rw [HTM.out] at HJ
        have hjl := HJL.out (n1) HMM.out
        rw [HTM.out] at hjl
        obtain ⟨Jn, hJn⟩ : ∃ Jn, join (ps.take (n1)) = Jn := ⟨_, rfl⟩
        rw [hJn] at HJ hjl
        have HJN := hid hJn
        clear hJn
        go_upto_if 39 with (go_at_call 25; refine HJ.out.mono ?_; rintro e w2 ⟨⟨t, rfl, ht⟩, B2⟩; have hts : t.size = Jn.length := (by rw [← ht, U.bn_length]); have HTS2 := hid hts; have HB2 := hid B2; clear ht B2 hts)
        by_cases h253 : 253 < t.size
        · have HBAD : Hid (badL ps) := .inr (by rw [HCP.out, HJN.out]; have := HTS2.out; omega)
          go_wp2
          exact ⟨rfl, .inr ⟨HBAD.out, rfl⟩, HB2.out⟩
        · have HGOOD : Hid (¬ badL ps) := by
            rintro (⟨p, hp, hno⟩ | h)
            · rw [HCP.out] at hp; exact hno (HALL.out p hp)
            · rw [HCP.out, HJN.out] at h
              have := HTS2.out
              omega
          go_wp2
          go_end0
          exact ⟨.inl ⟨HGOOD.out, rfl⟩, HB2.out⟩
  · have HCP : Hid (cps ps = ps.take n) := by
      show _ = _
      unfold cps
      rw [if_neg hl, List.take_of_length_le]
      have := congrArg List.length HPS.out
      rw [List.length_map, HTS.out] at this
      omega
    have HMM : Hid (n ≤ n) := Nat.le_refl _
    have HM0 : Hid (0 < n) := hp
    by_cases hn1 : n1 = 0
    · have hn1z : ¬ (0 : Int) < (n1 : Int) := by omega
      clear hl HLE HPN hszl hn1
      go_enter Tryz.func24, Tryz.ntmps24
      go_wp2_with fail
      go_loop [22] (fun v22 => ∃ k : Nat, k ≤ n ∧ v22 = .int .i64 k ∧ Hid (∀ j, j < k → okl (U.bn (ts[j]?.getD ⟨#[]⟩)))) (fun v22 => n - (intOf v22).toNat)
      case atStart => exact ⟨0, Nat.zero_le _, rfl, (fun j hj => by omega)⟩
      case round =>
        obtain ⟨k, hk, rfl, HA⟩ := hrel
        by_cases hlt : k < n
        · have hck := HC.out k (by have := HMM.out; omega)
          have hsz := HSZ.out k (by have := HMM.out; omega)
          have HIN := hid (mem_take_at HPS.out (m := n) (by rw [HTS.out]; exact HMM.out) k hlt)
          have HS : Hid (okl (U.bn (ts[k]?.getD ⟨#[]⟩)) → ∀ j, j < k + 1 → okl (U.bn (ts[j]?.getD ⟨#[]⟩))) := fun h j hj => by
            by_cases e : j = k
            · rw [e]; exact h
            · exact HA.out j (by omega)
          obtain ⟨t, ht⟩ : ∃ t, ts[k]?.getD ⟨#[]⟩ = t := ⟨_, rfl⟩
          rw [ht] at hck hsz HIN HS
          clear ht
          by_cases hz : t.size = 0
          · have e1 : (t.toList == []) = true := by rw [empty_list]; exact decide_eq_true hz
            have HBAD : Hid (badL ps) := .inl ⟨_, by rw [HCP.out]; exact HIN.out, fun h => (okl_bn.1 h).1 hz⟩
            have HZ := hid hz
            clear hz
            go_wp2
            all_goals exact ⟨rfl, .inr ⟨HBAD.out, rfl⟩, Below.refl _ _⟩
          · have e1 : (t.toList == []) = false := by rw [empty_list]; exact decide_eq_false hz
            by_cases h63 : 63 < t.size
            · have HBAD : Hid (badL ps) := .inl ⟨_, by rw [HCP.out]; exact HIN.out, fun h => by have := (okl_bn.1 h).2; omega⟩
              go_wp2
              exact ⟨rfl, .inr ⟨HBAD.out, rfl⟩, Below.refl _ _⟩
            · have HN := hid (HS.out (okl_bn.2 ⟨hz, by omega⟩))
              go_wp2
              exact ⟨⟨k + 1, by omega, by go_num, HN⟩, by simp [intOf]; omega⟩
        · have hkM : ¬ (k : Int) < (n : Int) := by omega
          have HALL := hid (take_mem HPS.out (m := n) (by rw [HTS.out]; exact HMM.out) (fun j hj => HA.out j (by omega)))
          have HJ := hid (join_any g c (n) (ts.take (n)) (by rw [List.length_take, HTS.out]; have := HMM.out; omega) w (fun j hj => by rw [List.getElem?_take_of_lt hj]; exact HC.out j (by have := HMM.out; omega)) HM0.out (by have := HMM.out; omega) (by have := HMM.out; omega) (HJL.out _ HMM.out))
          rw [HTM.out] at HJ
          have hjl := HJL.out (n) HMM.out
          rw [HTM.out] at hjl
          obtain ⟨Jn, hJn⟩ : ∃ Jn, join (ps.take (n)) = Jn := ⟨_, rfl⟩
          rw [hJn] at HJ hjl
          have HJN := hid hJn
          clear hJn
          go_upto_if 39 with (go_at_call 25; refine HJ.out.mono ?_; rintro e w2 ⟨⟨t, rfl, ht⟩, B2⟩; have hts : t.size = Jn.length := (by rw [← ht, U.bn_length]); have HTS2 := hid hts; have HB2 := hid B2; clear ht B2 hts)
          by_cases h253 : 253 < t.size
          · have HBAD : Hid (badL ps) := .inr (by rw [HCP.out, HJN.out]; have := HTS2.out; omega)
            go_wp2
            exact ⟨rfl, .inr ⟨HBAD.out, rfl⟩, HB2.out⟩
          · have HGOOD : Hid (¬ badL ps) := by
              rintro (⟨p, hp, hno⟩ | h)
              · rw [HCP.out] at hp; exact hno (HALL.out p hp)
              · rw [HCP.out, HJN.out] at h
                have := HTS2.out
                omega
            go_wp2
            go_end0
            exact ⟨.inl ⟨HGOOD.out, rfl⟩, HB2.out⟩
    · have htz : ¬ tl.size = 0 := fun h => hl (HLE.out.2 ⟨by omega, by rw [HPN.out]; exact List.length_eq_zero_iff.1 (by rw [U.bn_length]; exact h)⟩)
      have e0 : (tl.toList == []) = false := by rw [empty_list]; exact decide_eq_false htz
      have hn1z : (0 : Int) < (n1 : Int) := by omega
      clear hl HLE HPN hszl
      go_enter Tryz.func24, Tryz.ntmps24
      go_wp2_with fail
      go_loop [22] (fun v22 => ∃ k : Nat, k ≤ n ∧ v22 = .int .i64 k ∧ Hid (∀ j, j < k → okl (U.bn (ts[j]?.getD ⟨#[]⟩)))) (fun v22 => n - (intOf v22).toNat)
      case atStart => exact ⟨0, Nat.zero_le _, rfl, (fun j hj => by omega)⟩
      case round =>
        obtain ⟨k, hk, rfl, HA⟩ := hrel
        by_cases hlt : k < n
        · have hck := HC.out k (by have := HMM.out; omega)
          have hsz := HSZ.out k (by have := HMM.out; omega)
          have HIN := hid (mem_take_at HPS.out (m := n) (by rw [HTS.out]; exact HMM.out) k hlt)
          have HS : Hid (okl (U.bn (ts[k]?.getD ⟨#[]⟩)) → ∀ j, j < k + 1 → okl (U.bn (ts[j]?.getD ⟨#[]⟩))) := fun h j hj => by
            by_cases e : j = k
            · rw [e]; exact h
            · exact HA.out j (by omega)
          obtain ⟨t, ht⟩ : ∃ t, ts[k]?.getD ⟨#[]⟩ = t := ⟨_, rfl⟩
          rw [ht] at hck hsz HIN HS
          clear ht
          by_cases hz : t.size = 0
          · have e1 : (t.toList == []) = true := by rw [empty_list]; exact decide_eq_true hz
            have HBAD : Hid (badL ps) := .inl ⟨_, by rw [HCP.out]; exact HIN.out, fun h => (okl_bn.1 h).1 hz⟩
            have HZ := hid hz
            clear hz
            go_wp2
            all_goals exact ⟨rfl, .inr ⟨HBAD.out, rfl⟩, Below.refl _ _⟩
          · have e1 : (t.toList == []) = false := by rw [empty_list]; exact decide_eq_false hz
            by_cases h63 : 63 < t.size
            · have HBAD : Hid (badL ps) := .inl ⟨_, by rw [HCP.out]; exact HIN.out, fun h => by have := (okl_bn.1 h).2; omega⟩
              go_wp2
              exact ⟨rfl, .inr ⟨HBAD.out, rfl⟩, Below.refl _ _⟩
            · have HN := hid (HS.out (okl_bn.2 ⟨hz, by omega⟩))
              go_wp2
              exact ⟨⟨k + 1, by omega, by go_num, HN⟩, by simp [intOf]; omega⟩
        · have hkM : ¬ (k : Int) < (n : Int) := by omega
          have HALL := hid (take_mem HPS.out (m := n) (by rw [HTS.out]; exact HMM.out) (fun j hj => HA.out j (by omega)))
          have HJ := hid (join_any g c (n) (ts.take (n)) (by rw [List.length_take, HTS.out]; have := HMM.out; omega) w (fun j hj => by rw [List.getElem?_take_of_lt hj]; exact HC.out j (by have := HMM.out; omega)) HM0.out (by have := HMM.out; omega) (by have := HMM.out; omega) (HJL.out _ HMM.out))
          rw [HTM.out] at HJ
          have hjl := HJL.out (n) HMM.out
          rw [HTM.out] at hjl
          obtain ⟨Jn, hJn⟩ : ∃ Jn, join (ps.take (n)) = Jn := ⟨_, rfl⟩
          rw [hJn] at HJ hjl
          have HJN := hid hJn
          clear hJn
          go_upto_if 39 with (go_at_call 25; refine HJ.out.mono ?_; rintro e w2 ⟨⟨t, rfl, ht⟩, B2⟩; have hts : t.size = Jn.length := (by rw [← ht, U.bn_length]); have HTS2 := hid hts; have HB2 := hid B2; clear ht B2 hts)
          by_cases h253 : 253 < t.size
          · have HBAD : Hid (badL ps) := .inr (by rw [HCP.out, HJN.out]; have := HTS2.out; omega)
            go_wp2
            exact ⟨rfl, .inr ⟨HBAD.out, rfl⟩, HB2.out⟩
          · have HGOOD : Hid (¬ badL ps) := by
              rintro (⟨p, hp, hno⟩ | h)
              · rw [HCP.out] at hp; exact hno (HALL.out p hp)
              · rw [HCP.out, HJN.out] at h
                have := HTS2.out
                omega
            go_wp2
            go_end0
            exact ⟨.inl ⟨HGOOD.out, rfl⟩, HB2.out⟩
end Go.Proofs.YtdncaehajhmcoaaGreat.I
/- Split: labels, one by one, each in memory of its own. -/
namespace Go.Proofs.YtdncaehajhmcoaaGreat.I
open Go.RowKit Go.Shelf
set_option linter.unusedVariables false
attribute [local go_sem] Oper.semAt_some

/-- The row that is cut, its box; the rows that are gathered, their box. -/
structure So (w W : World) (B0 Bl Bo : Nat) (v : Value) (l : List Int) (vo : Value) (vs : List Value) (ls : List (List Int)) : Prop where
  bx : Bx Bl v l W
  bo : Boxed W Bo 28 vo
  out : W.ownsRow B0 34 1 vo ls.length vs
  els : Els W vs ls
  be : Below w.heap.size w W
  b1 : Bl < B0
  b2 : w.heap.size ≤ Bo
  b3 : w.heap.size ≤ B0
  b4 : B0 ≤ W.heap.size
theorem own_other {W W' : World} {base e size n : Nat} {v : Value} {X : List Value} {row : Option Nat} (h : W.ownsRow base e size v n X) (hg : W.grownBy W' row) (hr : ∀ r, row = some r → ∃ o : Obj, W.heap[r]? = some o ∧ o.isCells = false) : W'.ownsRow base e size v n X := by
  refine h.kept hg ?_
  rcases h.2 with ⟨rfl, _⟩ | ⟨g, cap, cur, rfl, _, hgb, _⟩
  · exact .inl rfl
  · refine .inr fun e' => ?_
    obtain ⟨o, ho, hc⟩ := hr g (by simpa [Value.ownBlock] using e'.symm)
    rw [hgb] at ho; cases ho; cases hc
theorem own_set {W : World} {base e size n : Nat} {v : Value} {X : List Value} {B : Nat} {t : TypeId} {x : Value} (h : W.ownsRow base e size v n X) (hb : Boxed W B t x) (ht : t ≠ e) (v' : Value) : (W.setCell ⟨B, 0, none⟩ v').ownsRow base e size v n X := by
  refine h.kept (grownBy_setCell' W B v') ?_
  exact .inr fun e' => hb.not_row ht h (by first | exact e' | exact e'.symm)
theorem Els.other {W W' : World} {vs : List Value} {ls : List (List Int)} {row : Option Nat} (h : Els W vs ls) (hg : W.grownBy W' row) (hr : ∀ r, row = some r → ∃ o : Obj, W.heap[r]? = some o ∧ o.isCells = false) : Els W' vs ls := ⟨h.1, fun i hi => (h.2 i hi).other hg hr⟩
theorem Els.set {W : World} {vs : List Value} {ls : List (List Int)} {B : Nat} {t : TypeId} {x : Value} (h : Els W vs ls) (hb : Boxed W B t x) (ht : t ≠ 21) (v' : Value) : Els (W.setCell ⟨B, 0, none⟩ v') vs ls := ⟨h.1, fun i hi => (h.2 i hi).set hb ht v'⟩
theorem So.below {w W W' : World} {B0 Bl Bo : Nat} {v vo : Value} {l : List Int} {vs : List Value} {ls : List (List Int)} (h : So w W B0 Bl Bo v l vo vs ls) (hb : Below W.heap.size W W') : So w W' B0 Bl Bo v l vo vs ls :=
  ⟨h.bx.below hb, (hb.block Bo h.bo.lt).trans h.bo, U.ownsRow_below h.out hb (Nat.le_refl _), h.els.below hb, h.be.trans (hb.mono h.be.size), h.b1, h.b2, h.b3, Nat.le_trans h.b4 hb.size⟩
theorem So.from_other {w W W' : World} {B0 Bl Bo : Nat} {v vo : Value} {l : List Int} {vs : List Value} {ls : List (List Int)} {row : Option Nat} (h : So w W B0 Bl Bo v l vo vs ls) (hg : W.grownBy W' row) (hr : ∀ r, row = some r → B0 ≤ r ∧ ∃ o : Obj, W.heap[r]? = some o ∧ o.isCells = false) : So w W' B0 Bl Bo v l vo vs ls :=
  ⟨h.bx.other hg (fun r e => (hr r e).2), boxed_other h.bo hg (fun r e => (hr r e).2), own_other h.out hg (fun r e => (hr r e).2), h.els.other hg (fun r e => (hr r e).2), h.be.grown hg h.be.size (fun k e => Nat.le_trans h.b3 (hr k e).1), h.b1, h.b2, h.b3, Nat.le_trans h.b4 hg.size⟩
/-- One label more. -/
theorem So.push {w W w1 : World} {B0 Bl Bo : Nat} {v vo vo' : Value} {l : List Int} {vs : List Value} {ls : List (List Int)} {u : Value} {l' : List Int} (h : So w W B0 Bl Bo v l vo vs ls) (hu : El W u l')
    (hown : w1.ownsRow B0 34 1 vo' (ls.length + 1) (vs ++ [u])) (hg : (W.alloc (.cells #[u] 34)).grownBy w1 vo.ownBlock) :
    Boxed w1 Bo 28 vo ∧ So w (w1.setCell ⟨Bo, 0, none⟩ vo') B0 Bl Bo v l vo' (vs ++ [u]) (ls ++ [l']) := by
  have ba := below_alloc W (.cells #[u] 34)
  have ho := h.out.alloc (.cells #[u] 34)
  have hbo := (h.bo.alloc (.cells #[u] 34)).kept hg ((h.bo.alloc _).not_row (by decide) ho)
  have hbl := (h.bx.box.alloc (.cells #[u] 34)).kept hg (fun e => by have := (ho.lt Bl e.symm).1; have := h.b1; omega)
  have hel := (h.bx.el.below ba).kept ho (by decide) hg
  have hels := (h.els.below ba).kept ho (by decide) hg
  have hu1 := (hu.below ba).kept ho (by decide) hg
  have hbe : Below w.heap.size w w1 := (h.be.alloc h.be.size _).grown hg (Nat.le_trans h.be.size (by simp)) (fun k e => Nat.le_trans h.b3 (ho.lt k e).1)
  have hne : Bl ≠ Bo := fun e => by
    subst e
    have h1 : w1.heap[Bl]? = _ := hbo
    have h2 : w1.heap[Bl]? = _ := hbl
    rw [h1] at h2
    cases h2
  refine ⟨hbo, ⟨hbl.other hne _, hel.set hbo (by decide) _⟩, hbo.set _, ?_, (hels.snoc hu1).set hbo (by decide) _, ?_, h.b1, h.b2, h.b3, ?_⟩
  · rw [List.length_append]; exact own_set hown hbo (by decide) _
  · exact hbe.setCell (p := ⟨Bo, 0, none⟩) h.b2 _
  · have h1 := hg.size
    have h2 := h.b4
    simp at h1 ⊢
    omega
theorem So.keeps {w W W' : World} {B0 Bl Bo : Nat} {v vo vo' : Value} {l : List Int} {vs vs' : List Value} {ls ls' : List (List Int)} (h' : So w W' B0 Bl Bo v l vo' vs' ls') : KeepsL Bl v l W W' := fun _ => h'.bx
def labs (n : Nat) (l : List Int) (pre : List (Pc n)) : List (List Int) := pre.map fun p => lab l p.1
theorem labs_snoc (n : Nat) (l : List Int) (pre : List (Pc n)) (x : Pc n) : labs n l (pre ++ [x]) = labs n l pre ++ [lab l x.1] := by simp [labs]
theorem labs_len (n : Nat) (l : List Int) (pre : List (Pc n)) : (labs n l pre).length = pre.length := by simp [labs]
theorem lab_len (l : List Int) (n : Nat) (p : Pc n) : (lab l p.1).length ≤ n := by
  unfold lab
  have := p.2
  simp only [List.length_take, List.length_drop]; omega
theorem pcv_sh (a : Option Addr) (p : Nat × Nat) : ∃ a' k c, pcv a p = .slice a' k c := ⟨_, _, _, rfl⟩
theorem keeps_grown {W W' : World} {base e size n : Nat} {v : Value} {X : List Value} (h : W.ownsRow base e size v n X) (hg : W.grownBy W' v.ownBlock) : KeepsOthers W W' :=
  KeepsOthers.of_grownBy hg (fun j o e' ho => by
    rcases h.2 with ⟨rfl, _⟩ | ⟨g, cap, cur, rfl, _, hgb, _⟩
    · simp [Value.ownBlock] at e'
    · have e3 : g = j := by simpa [Value.ownBlock] using e'
      subst e3
      rw [hgb] at ho; cases ho; rfl)
end Go.Proofs.YtdncaehajhmcoaaGreat.I
/- taken: what stands in the place of one label. -/
namespace Go.Proofs.YtdncaehajhmcoaaGreat.I
open Go.RowKit
set_option linter.unusedVariables false

theorem El.gives {l : List Int} {w : World} {v : Value} {W' : World} (h : W'.ownsRow w.heap.size 21 1 v l.length (l.map (Value.int .i32))) : El W' v l := El.own rfl h
theorem El.cap {W : World} {u : Value} {l : List Int} (h : El W u l) : ∀ a n c, u = .slice a n c → n ≤ c := fun a n c e => (h.2 a n c e).1
set_option maxRecDepth 100000 in
set_option maxHeartbeats 8000000 in
theorem taken_any (v : Value) (l : List Int) (hy : Bool) (w : World) (hlen : l.length ≤ 10000) (hs : Scs l) (hv : El w v l) :
    Calls Tryz.prog 34 #[v, .bool hy] w fun e W' => OneR l hy w e W' := by
  have HV := hid hv
  have HENC := hid (U.encode_any v l (by omega) w hv.ints)
  have HSC := hid hs
  obtain ⟨a, c, e0, -⟩ := hv.1
  have HCO : Hid (∀ W, Below w.heap.size w W → Calls Tryz.prog 47 #[v] W fun e W' => N.Gives l W e W') := fun W h => copied_any v l W (by omega) (hv.below h)
  have HFL : Hid (∀ W, Below w.heap.size w W → Calls Tryz.prog 63 #[v, .bool hy] W fun e W' => e = .returned (.int .u16 (L.flt l hy)) ∧ Below W.heap.size W W') := fun W h => L.faults_any v hy l W hlen (hv.below h).1 (hv.below h).cap
  obtain ⟨n, hn⟩ : ∃ n, l.length = n := ⟨_, rfl⟩
  rw [hn] at e0 hlen
  have HN := hid hn
  subst e0
  clear hv hn hs
  go_enter Tryz.func34, Tryz.ntmps34
  go_upto_if 23 with (first
    | (go_at_call 62; refine (cut_any s1 _ (by have := HZ1.out; omega)).mono ?_; rintro e w2 ⟨⟨t2, b2, rfl, hc⟩, hw2⟩; obtain rfl := hw2.symm; have HC := hid hc; clear hc)
    | (go_at_call 29; refine HENC.out.mono ?_; rintro e w1 ⟨⟨s1, r1, rfl, hE⟩, B1⟩; have HE := hid hE; have HB1 := hid B1; have HZ1 : Hid (s1.size ≤ 40000) := (by show _ ≤ _; rcases hE with ⟨_, _, h⟩ | ⟨_, _, h⟩ <;> first | (have h2 := U.encs_len l; rw [← h, U.bn_length] at h2; have := HN.out; omega) | (rw [h]; exact Nat.zero_le _)); clear hE B1))
  have hbn : U.bn s1 = U.encs l := by
    rcases HE.out with ⟨_, _, h⟩ | ⟨h, _, _⟩
    · exact h
    · rw [scs_all.1 HSC.out] at h; cases h
  have HBN := hid hbn
  clear hbn
  cases b2 with
  | false =>
    have hp : L.pre4 l = false := by
      rcases HC.out with ⟨h, _⟩ | ⟨_, h⟩
      · cases h
      · rw [HBN.out, ← pre4_encs] at h
        simpa using h
    have HO := hid (one_a (hy := hy) hp)
    have HC1 := hid (HCO.out w1 HB1.out)
    obtain ⟨F, hF⟩ : ∃ F, L.flt l hy = F := ⟨_, rfl⟩
    rw [hF] at HFL HO
    clear hp hF
    go_wp2_with (first
      | (go_at_call 63; refine (HFL.out _ HB3.out).mono ?_; rintro e w4 ⟨rfl, B4⟩; have HB4 := hid B4; clear B4)
      | (go_at_call 47; refine HC1.out.mono ?_; rintro e w3 ⟨v3, rfl, r3, B3⟩; have R3 := hid r3; have HB3 := hid (HB1.out.trans (B3.mono HB1.out.size)); obtain ⟨a3, c3, rfl⟩ := own_sh21 r3; clear r3 B3))
    go_ret2
    unfold OneR
    rw [HO.out]
    exact ⟨_, rfl, (El.own rfl R3.out).below HB4.out, HB3.out.trans (HB4.out.mono HB3.out.size)⟩
  | true =>
    have hp : L.pre4 l = true ∧ U.bn t2 = U.encs (l.drop 4) := by
      rcases HC.out with ⟨_, h⟩ | ⟨h, _⟩
      · rw [HBN.out] at h
        have hq := (pre4_encs l).2 ⟨_, h⟩
        have h4 := encs_drop4 hq
        rw [h] at h4
        exact ⟨hq, by rw [← h4]; rfl⟩
      · cases h
    have HO := hid (one_taken (hy := hy) HSC.out hp.1)
    have HSM := hid (decA_scal (T := U.encs (l.drop 4)) (by rw [← hp.2]; exact U.bn_bytes t2))
    have HDD := hid (P.pdecode_any t2 w1)
    rw [hp.2] at HDD
    have HBT : Hid (U.Bytes (U.encs (l.drop 4))) := by show U.Bytes _; rw [← hp.2]; exact U.bn_bytes t2
    obtain ⟨T, hT⟩ : ∃ T, U.encs (l.drop 4) = T := ⟨_, rfl⟩
    rw [hT] at HO HSM HDD HBT
    clear hp hT HC HBN
    go_upto_region 6 with (go_at_call 64; refine HDD.out.mono ?_; rintro e w3 ⟨⟨v3, r3, rfl, hD⟩, B3⟩; have HD := hid hD; have HB3 := hid (HB1.out.trans (B3.mono HB1.out.size)); obtain ⟨a3, c3, he3, _⟩ := L.ints_form (dec_el hD).ints; have HE3 := hid he3; clear hD B3 he3; obtain ⟨q, hq⟩ : ∃ q, (P.decA T).1.length = q := ⟨_, rfl⟩; rw [hq] at HE3; obtain rfl := HE3.out; have HQ := hid hq; clear hq)
    obtain ⟨h1, h2, h3⟩ := HD.out.one HBT.out
    have hel := dec_el HD.out
    have HEL := hid hel
    rw [HQ.out] at h3
    have HAS := hid (isascii_any _ (P.decA T).1 w3 (by rw [HQ.out]; omega) HSM.out h1)
    have HFM := hid (L.faults_any _ hy (P.decA T).1 w3 (by rw [HQ.out]; omega) hel.1 hel.cap)
    have HC3 := hid (HCO.out w3 HB3.out)
    rw [← h2] at HO
    obtain ⟨m, hm⟩ : ∃ m, (P.decA T).1 = m := ⟨_, rfl⟩
    rw [hm] at HO HAS HFM HEL
    obtain ⟨F, hF⟩ : ∃ F, L.flt m hy = F := ⟨_, rfl⟩
    rw [hF] at HO HFM
    obtain ⟨pm, hpm⟩ : ∃ pm, plain m = pm := ⟨_, rfl⟩
    rw [hpm] at HO HAS
    clear h1 h2 hel hm hF hpm HD HQ HE3 HDD HFL HCO
    by_cases hr : r3 = 0
    · subst hr
      cases pm with
      | true =>
        have HO2 : Hid (one l hy = (l, 512)) := by show _ = _; rw [HO.out, if_neg (by decide)]
        go_wp2_with (first
          | (go_at_call 47; refine HC3.out.mono ?_; rintro e w4 ⟨v4, rfl, r4, B4⟩; have R4 := hid r4; have HB4 := hid (HB3.out.trans (B4.mono HB3.out.size)); obtain ⟨a4, c4, rfl⟩ := own_sh21 r4; clear r4 B4)
          | (go_at_call 65; refine HAS.out.mono ?_; rintro e wb ⟨rfl, hwb⟩; obtain rfl := hwb.symm))
        go_ret2
        unfold OneR
        rw [HO2.out]
        exact ⟨_, rfl, El.own rfl R4.out, HB4.out⟩
      | false =>
        have HO2 : Hid (one l hy = (m, F)) := by show _ = _; rw [HO.out, if_pos ⟨rfl, rfl⟩]
        go_wp2_with (first
          | (go_at_call 65; refine HAS.out.mono ?_; rintro e wb ⟨rfl, hwb⟩; obtain rfl := hwb.symm)
          | (go_at_call 63; refine HFM.out.mono ?_; rintro e w4 ⟨rfl, B4⟩))
        go_ret2
        unfold OneR
        rw [HO2.out]
        exact ⟨_, rfl, HEL.out.below B4, HB3.out.trans (B4.mono HB3.out.size)⟩
    · have hrb : (r3 != 0) = true := by simpa using hr
      have hrc : (r3 == 0) = false := by simpa using hr
      have HO2 : Hid (one l hy = (l, 512)) := by show _ = _; rw [HO.out, if_neg (fun h => hr h.1)]
      go_wp2_with (go_at_call 47; refine HC3.out.mono ?_; rintro e w4 ⟨v4, rfl, r4, B4⟩; have R4 := hid r4; have HB4 := hid (HB3.out.trans (B4.mono HB3.out.size)); obtain ⟨a4, c4, rfl⟩ := own_sh21 r4; clear r4 B4)
      go_ret2
      unfold OneR
      rw [HO2.out]
      exact ⟨_, rfl, El.own rfl R4.out, HB4.out⟩
end Go.Proofs.YtdncaehajhmcoaaGreat.I
