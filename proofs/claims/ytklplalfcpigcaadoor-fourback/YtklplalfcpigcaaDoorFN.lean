/- The document's Number. (Stage 10.) -/
import Derived.Test.YtklplalfcpigcaaDoorProg
import Derived.Test.YtklplalfcpigcaaDoorFO
import Derived.Test.YtklplalfcpigcaaDoorFP
import Derived.WalkKit
import Derived.WalkSpells
import Derived.WalkLawsBesides
import Derived.Below
namespace Go.Proofs.YtklplalfcpigcaaDoor.F
open Go.RowKit
set_option linter.unusedVariables false

theorem ret_int {k : IntKind} {a b : Int} (h : a = b) : Ending.returned (.int k a) = .returned (.int k b) := by rw [h]
set_option maxRecDepth 100000 in
set_option maxHeartbeats 1000000 in
theorem rhex_any (c : Int) (h0 : 0 ≤ c) (h1 : c ≤ 255) (w : World) : Calls Tryd.prog 19 #[.int .u8 c] w fun e W' => e = .returned (.int .i64 (hx c)) ∧ W' = w := by
  by_cases a1 : 48 ≤ c ∧ c ≤ 57
  · obtain ⟨x1, x2⟩ := a1
    go_enter Tryd.func19, Tryd.ntmps19
    go_wp2
    go_ret
    exact ⟨ret_int (by unfold hx; (repeat' split) <;> omega), rfl⟩
  by_cases a2 : 97 ≤ c ∧ c ≤ 102
  · obtain ⟨x1, x2⟩ := a2
    go_enter Tryd.func19, Tryd.ntmps19
    go_wp2
    go_ret
    exact ⟨ret_int (by unfold hx; (repeat' split) <;> omega), rfl⟩
  by_cases a3 : 65 ≤ c ∧ c ≤ 70
  · obtain ⟨x1, x2⟩ := a3
    go_enter Tryd.func19, Tryd.ntmps19
    go_wp2
    go_ret
    exact ⟨ret_int (by unfold hx; (repeat' split) <;> omega), rfl⟩
  have hm : hx c = -1 := by unfold hx; (repeat' split) <;> omega
  rw [hm]
  go_enter Tryd.func19, Tryd.ntmps19
  go_wp2
  all_goals first
    | (go_ret; exact ⟨rfl, rfl⟩)
    | (exfalso; omega)
    | (go_ret; exact ⟨ret_int (by omega), rfl⟩)
/-- What is left of a text behind its base. -/
def tail (s : ByteArray) : ByteArray := if isX (bn s) = true then s.extract 2 s.size else if isO (bn s) = true then s.extract 1 s.size else s
theorem tail_bn (s : ByteArray) : bn (tail s) = rest (bn s) := by
  unfold tail rest
  split
  · exact bn_extract s 2
  · split
    · exact bn_extract s 1
    · rfl
theorem tail_size (s : ByteArray) : (tail s).size ≤ s.size := by
  unfold tail
  split
  · simp
  · split
    · simp
    · exact Nat.le_refl _
/-- What Number answers. -/
def NumR (l : List Int) (e : Ending) : Prop := e = .returned (.tuple #[.int .u64 ((num l).1 : Nat), .int .i64 (num l).2])
theorem num_bad {l : List Int} (hl : l ≠ []) (h : ok (base l) (rest l) = false) : num l = (0, 8) := by unfold num; rw [if_neg hl, if_pos h]
theorem num_end {l : List Int} (hl : l ≠ []) (h : ok (base l) (rest l) = true) : num l = if 4294967296 ≤ cap (base l) (rest l) then (0, 4) else (cap (base l) (rest l), 0) := by
  unfold num
  rw [if_neg hl, h, if_neg (by simp)]
  by_cases h2 : 4294967296 ≤ vl (base l) (rest l)
  · rw [if_pos h2, if_pos ((cap_long _ _).2 h2)]
  · rw [if_neg h2, if_neg (fun h => h2 ((cap_long _ _).1 h)), cap_vl h2]
theorem ok_take_bad {b : Nat} {l : List Int} {k : Nat} (hk : k < l.length) (h : good b (l[k]?.getD 0) = false) : ok b l = false := by
  rw [Bool.eq_false_iff]
  intro hh
  have := List.all_eq_true.1 hh l[k] (List.getElem_mem hk)
  rw [List.getElem?_eq_getElem hk] at h
  rw [show l[k] = (some l[k]).getD 0 from rfl, h] at this
  cases this
set_option maxRecDepth 100000 in
set_option maxHeartbeats 8000000 in
theorem rnumber_any (s : ByteArray) (w : World) (hs : s.size ≤ 100000) :
    Calls Tryd.prog 9 #[.string s] w fun e W' => NumR (bn s) e ∧ W' = w := by
  by_cases h0 : s.size = 0
  · have he : s.toList.isEmpty = true := isEmpty_true s h0
    have hn : num (bn s) = (0, 8) := by
      have : bn s = [] := List.length_eq_zero_iff.1 (by rw [bn_length]; exact h0)
      rw [this]; rfl
    have HR : Hid (∀ e, e = .returned (.tuple #[.int .u64 0, .int .i64 8]) → NumR (bn s) e) := fun e h => by unfold NumR; rw [hn]; exact h
    clear hn
    go_enter Tryd.func9, Tryd.ntmps9
    go_wp2
    go_ret2
    exact ⟨HR.out _ rfl, rfl⟩
  · have he : s.toList.isEmpty = false := isEmpty_false s (by omega)
    have hl : bn s ≠ [] := fun e => h0 (by rw [← bn_length, e]; rfl)
    by_cases h2 : 2 ≤ s.size
    · have h2z : (2 : Int) ≤ (s.size : Int) := by omega
      have hg0 := (bn_get s 0 (by omega)).symm
      have hg1 := (bn_get s 1 (by omega)).symm
      obtain ⟨e0, he0⟩ : ∃ e0, (bn s)[0]?.getD 0 = e0 := ⟨_, rfl⟩
      obtain ⟨e1, he1⟩ : ∃ e1, (bn s)[1]?.getD 0 = e1 := ⟨_, rfl⟩
      have HXD : Hid (isX (bn s) = decide (2 ≤ (bn s).length ∧ e0 = 48 ∧ (e1 = 120 ∨ e1 = 88))) := by show _ = _; rw [← he0, ← he1]; rfl
      have HOD : Hid (isO (bn s) = decide (2 ≤ (bn s).length ∧ e0 = 48)) := by show _ = _; rw [← he0]; rfl
      rw [bn_length] at HXD HOD
      rw [he0] at hg0
      rw [he1] at hg1
      clear he0 he1
      by_cases c0 : e0 = 48
      · have b0 : (e0 == 48) = true := by simpa using c0
        by_cases c1 : e1 = 120
        · have b1 : (e1 == 120) = true := by simpa using c1
          have hX : isX (bn s) = true := by rw [HXD.out]; exact decide_eq_true ⟨h2, c0, .inl c1⟩
          clear HXD HOD c0 c1
          have HB : Hid (base (bn s) = 16) := by show _ = _; unfold base; rw [hX]; rfl
          have HTS : Hid (bn (tail s) = rest (bn s)) := tail_bn s
          have HTE : Hid (tail s = s.extract 2 s.size) := by show _ = _; unfold tail; rw [hX]; rfl
          clear hX
          go_enter Tryd.func9, Tryd.ntmps9
          go_wp2_with fail
          obtain ⟨T, hT⟩ : ∃ T, s.extract 2 s.size = T := ⟨_, rfl⟩
          rw [hT] at HTE ⊢
          have HT : Hid (bn T = rest (bn s)) := by show _ = _; rw [← HTE.out]; exact HTS.out
          have hTs : T.size ≤ 100000 := by rw [← HTE.out]; exact Nat.le_trans (tail_size s) hs
          clear HTE HTS hT
          have HBD := hid (fun j (h : j < T.size) => byte_bd (s := T) h)
          have HGT := hid (bn_get T)
          have HBAD : Hid (∀ k, k < T.size → good 16 ((bn T)[k]?.getD 0) = false → num (bn s) = (0, 8)) := fun k hk h => num_bad hl (by rw [HB.out, ← HT.out]; exact ok_take_bad (by rw [bn_length]; exact hk) h)
          have HEND : Hid (ok 16 (bn T) = true → num (bn s) = if 4294967296 ≤ cap 16 (bn T) then (0, 4) else (cap 16 (bn T), 0)) := fun h => by
            have := num_end hl (by rw [HB.out, ← HT.out]; exact h)
            rw [HB.out, ← HT.out] at this
            exact this
          have HNR : Hid (∀ (x : Nat) (y : Int) e, num (bn s) = (x, y) → e = .returned (.tuple #[.int .u64 x, .int .i64 y]) → NumR (bn s) e) := fun x y e h he => by unfold NumR; rw [h]; exact he
          have HLN := hid (bn_length T)
          go_loop [5, 6] (fun v5 v6 => ∃ (k n : Nat), k ≤ T.size ∧ n ≤ 4294967296 ∧ v5 = .int .u64 n ∧ v6 = .int .i64 k ∧ Hid (n = cap 16 ((bn T).take k)) ∧ Hid (ok 16 ((bn T).take k) = true)) (fun _ v6 => T.size - (intOf v6).toNat)
          case atStart => exact ⟨0, 0, Nat.zero_le _, by omega, rfl, rfl, rfl, rfl⟩
          case round =>
            obtain ⟨k, n, hk, hn, rfl, rfl, HC, HO⟩ := hrel
            by_cases hlt : k < T.size
            · have hg := (HGT.out k hlt).symm
              obtain ⟨hb0, hb1⟩ := HBD.out k hlt
              have HX := hid (rhex_any _ hb0 hb1)
              have HBK := hid (HBAD.out k hlt)
              have q := hx_bd ((bn T)[k]?.getD 0)
              have HGD : Hid (good 16 ((bn T)[k]?.getD 0) = decide (0 ≤ hx ((bn T)[k]?.getD 0) ∧ hx ((bn T)[k]?.getD 0) < 16)) := rfl
              have HTK := hid (take_one (bn T) k (by rw [HLN.out]; exact hlt))
              have HCS : Hid (cap 16 ((bn T).take (k + 1)) = min (n * 16 + (hx ((bn T)[k]?.getD 0)).toNat) 4294967296) := by show _ = _; rw [HTK.out, cap_snoc (by decide), ← HC.out]
              have HOS : Hid (ok 16 ((bn T).take (k + 1)) = good 16 ((bn T)[k]?.getD 0)) := by show _ = _; rw [HTK.out, ok_snoc, HO.out, Bool.true_and]
              obtain ⟨d, hd⟩ : ∃ d, hx ((bn T)[k]?.getD 0) = d := ⟨_, rfl⟩
              rw [hd] at HX q HGD HCS
              obtain ⟨G, hG⟩ : ∃ G, good 16 ((bn T)[k]?.getD 0) = G := ⟨_, rfl⟩
              rw [hG] at HBK HGD HOS
              obtain ⟨y, hy⟩ : ∃ y, (bn T)[k]?.getD 0 = y := ⟨_, rfl⟩
              rw [hy] at hg HX hb0 hb1
              obtain ⟨q0, q1⟩ := q
              clear hd hG hy HTK HGT HBD HBAD HEND
              by_cases hn0 : d < 0
              · have HR := hid (HBK.out (by rw [HGD.out]; exact decide_eq_false (by omega)))
                clear HGD HBK HCS HOS HC HO
                go_wp2_with (go_at_call 19; refine (HX.out _).mono ?_; rintro e w2 ⟨rfl, hw2⟩; obtain rfl := hw2.symm)
                go_ret2
                exact ⟨HNR.out _ _ _ HR.out rfl, rfl⟩
              · by_cases hnb : 16 ≤ d
                · have HR := hid (HBK.out (by rw [HGD.out]; exact decide_eq_false (by omega)))
                  clear HGD HBK HCS HOS HC HO
                  go_wp2_with (go_at_call 19; refine (HX.out _).mono ?_; rintro e w2 ⟨rfl, hw2⟩; obtain rfl := hw2.symm)
                  go_ret2
                  exact ⟨HNR.out _ _ _ HR.out rfl, rfl⟩
                · have HGT' : Hid (G = true) := by show _ = _; rw [HGD.out]; exact decide_eq_true (by omega)
                  obtain ⟨x, hx'⟩ : ∃ x : Nat, d = (x : Int) := ⟨d.toNat, by omega⟩
                  subst hx'
                  have hnbz : ¬ ((16 : Int) ≤ (x : Int)) := hnb
                  clear HGD HBK HC HO
                  go_wp2_with (go_at_call 19; refine (HX.out _).mono ?_; rintro e w2 ⟨rfl, hw2⟩; obtain rfl := hw2.symm)
                  refine ⟨⟨k + 1, min (n * 16 + x) 4294967296, by omega, by omega, ?_, by go_num, ?_, ?_⟩, by simp [intOf]; omega⟩
                  · congr 1
                    omega
                  · show _ = _
                    rw [HCS.out]; rfl
                  · show _ = _
                    rw [HOS.out, HGT'.out]
            · have ht : (bn T).take k = bn T := List.take_of_length_le (by rw [HLN.out]; omega)
              rw [ht] at HC HO
              have HR := hid (HEND.out HO.out)
              rw [← HC.out] at HR
              clear ht HC HO HBAD HEND HGT HBD
              by_cases hnl : 4294967296 ≤ n
              · have HR' := hid (HR.out.trans (if_pos hnl))
                have hnz : (4294967296 : Int) ≤ (n : Int) := by omega
                clear HR
                go_wp2
                go_ret2
                exact ⟨HNR.out _ _ _ HR'.out rfl, rfl⟩
              · have HR' := hid (HR.out.trans (if_neg hnl))
                have hnz : ¬ (4294967296 : Int) ≤ (n : Int) := by omega
                clear HR
                go_wp2
                go_ret2
                exact ⟨HNR.out _ _ _ HR'.out rfl, rfl⟩
        · have b1 : (e1 == 120) = false := by simpa using c1
          by_cases c2 : e1 = 88
          · have b2 : (e1 == 88) = true := by simpa using c2
            have hX : isX (bn s) = true := by rw [HXD.out]; exact decide_eq_true ⟨h2, c0, .inr c2⟩
            clear HXD HOD c0 c1 c2
            have HB : Hid (base (bn s) = 16) := by show _ = _; unfold base; rw [hX]; rfl
            have HTS : Hid (bn (tail s) = rest (bn s)) := tail_bn s
            have HTE : Hid (tail s = s.extract 2 s.size) := by show _ = _; unfold tail; rw [hX]; rfl
            clear hX
            go_enter Tryd.func9, Tryd.ntmps9
            go_wp2_with fail
            obtain ⟨T, hT⟩ : ∃ T, s.extract 2 s.size = T := ⟨_, rfl⟩
            rw [hT] at HTE ⊢
            have HT : Hid (bn T = rest (bn s)) := by show _ = _; rw [← HTE.out]; exact HTS.out
            have hTs : T.size ≤ 100000 := by rw [← HTE.out]; exact Nat.le_trans (tail_size s) hs
            clear HTE HTS hT
            have HBD := hid (fun j (h : j < T.size) => byte_bd (s := T) h)
            have HGT := hid (bn_get T)
            have HBAD : Hid (∀ k, k < T.size → good 16 ((bn T)[k]?.getD 0) = false → num (bn s) = (0, 8)) := fun k hk h => num_bad hl (by rw [HB.out, ← HT.out]; exact ok_take_bad (by rw [bn_length]; exact hk) h)
            have HEND : Hid (ok 16 (bn T) = true → num (bn s) = if 4294967296 ≤ cap 16 (bn T) then (0, 4) else (cap 16 (bn T), 0)) := fun h => by
              have := num_end hl (by rw [HB.out, ← HT.out]; exact h)
              rw [HB.out, ← HT.out] at this
              exact this
            have HNR : Hid (∀ (x : Nat) (y : Int) e, num (bn s) = (x, y) → e = .returned (.tuple #[.int .u64 x, .int .i64 y]) → NumR (bn s) e) := fun x y e h he => by unfold NumR; rw [h]; exact he
            have HLN := hid (bn_length T)
            go_loop [5, 6] (fun v5 v6 => ∃ (k n : Nat), k ≤ T.size ∧ n ≤ 4294967296 ∧ v5 = .int .u64 n ∧ v6 = .int .i64 k ∧ Hid (n = cap 16 ((bn T).take k)) ∧ Hid (ok 16 ((bn T).take k) = true)) (fun _ v6 => T.size - (intOf v6).toNat)
            case atStart => exact ⟨0, 0, Nat.zero_le _, by omega, rfl, rfl, rfl, rfl⟩
            case round =>
              obtain ⟨k, n, hk, hn, rfl, rfl, HC, HO⟩ := hrel
              by_cases hlt : k < T.size
              · have hg := (HGT.out k hlt).symm
                obtain ⟨hb0, hb1⟩ := HBD.out k hlt
                have HX := hid (rhex_any _ hb0 hb1)
                have HBK := hid (HBAD.out k hlt)
                have q := hx_bd ((bn T)[k]?.getD 0)
                have HGD : Hid (good 16 ((bn T)[k]?.getD 0) = decide (0 ≤ hx ((bn T)[k]?.getD 0) ∧ hx ((bn T)[k]?.getD 0) < 16)) := rfl
                have HTK := hid (take_one (bn T) k (by rw [HLN.out]; exact hlt))
                have HCS : Hid (cap 16 ((bn T).take (k + 1)) = min (n * 16 + (hx ((bn T)[k]?.getD 0)).toNat) 4294967296) := by show _ = _; rw [HTK.out, cap_snoc (by decide), ← HC.out]
                have HOS : Hid (ok 16 ((bn T).take (k + 1)) = good 16 ((bn T)[k]?.getD 0)) := by show _ = _; rw [HTK.out, ok_snoc, HO.out, Bool.true_and]
                obtain ⟨d, hd⟩ : ∃ d, hx ((bn T)[k]?.getD 0) = d := ⟨_, rfl⟩
                rw [hd] at HX q HGD HCS
                obtain ⟨G, hG⟩ : ∃ G, good 16 ((bn T)[k]?.getD 0) = G := ⟨_, rfl⟩
                rw [hG] at HBK HGD HOS
                obtain ⟨y, hy⟩ : ∃ y, (bn T)[k]?.getD 0 = y := ⟨_, rfl⟩
                rw [hy] at hg HX hb0 hb1
                obtain ⟨q0, q1⟩ := q
                clear hd hG hy HTK HGT HBD HBAD HEND
                by_cases hn0 : d < 0
                · have HR := hid (HBK.out (by rw [HGD.out]; exact decide_eq_false (by omega)))
                  clear HGD HBK HCS HOS HC HO
                  go_wp2_with (go_at_call 19; refine (HX.out _).mono ?_; rintro e w2 ⟨rfl, hw2⟩; obtain rfl := hw2.symm)
                  go_ret2
                  exact ⟨HNR.out _ _ _ HR.out rfl, rfl⟩
                · by_cases hnb : 16 ≤ d
                  · have HR := hid (HBK.out (by rw [HGD.out]; exact decide_eq_false (by omega)))
                    clear HGD HBK HCS HOS HC HO
                    go_wp2_with (go_at_call 19; refine (HX.out _).mono ?_; rintro e w2 ⟨rfl, hw2⟩; obtain rfl := hw2.symm)
                    go_ret2
                    exact ⟨HNR.out _ _ _ HR.out rfl, rfl⟩
                  · have HGT' : Hid (G = true) := by show _ = _; rw [HGD.out]; exact decide_eq_true (by omega)
                    obtain ⟨x, hx'⟩ : ∃ x : Nat, d = (x : Int) := ⟨d.toNat, by omega⟩
                    subst hx'
                    have hnbz : ¬ ((16 : Int) ≤ (x : Int)) := hnb
                    clear HGD HBK HC HO
                    go_wp2_with (go_at_call 19; refine (HX.out _).mono ?_; rintro e w2 ⟨rfl, hw2⟩; obtain rfl := hw2.symm)
                    refine ⟨⟨k + 1, min (n * 16 + x) 4294967296, by omega, by omega, ?_, by go_num, ?_, ?_⟩, by simp [intOf]; omega⟩
                    · congr 1
                      omega
                    · show _ = _
                      rw [HCS.out]; rfl
                    · show _ = _
                      rw [HOS.out, HGT'.out]
              · have ht : (bn T).take k = bn T := List.take_of_length_le (by rw [HLN.out]; omega)
                rw [ht] at HC HO
                have HR := hid (HEND.out HO.out)
                rw [← HC.out] at HR
                clear ht HC HO HBAD HEND HGT HBD
                by_cases hnl : 4294967296 ≤ n
                · have HR' := hid (HR.out.trans (if_pos hnl))
                  have hnz : (4294967296 : Int) ≤ (n : Int) := by omega
                  clear HR
                  go_wp2
                  go_ret2
                  exact ⟨HNR.out _ _ _ HR'.out rfl, rfl⟩
                · have HR' := hid (HR.out.trans (if_neg hnl))
                  have hnz : ¬ (4294967296 : Int) ≤ (n : Int) := by omega
                  clear HR
                  go_wp2
                  go_ret2
                  exact ⟨HNR.out _ _ _ HR'.out rfl, rfl⟩
          · have b2 : (e1 == 88) = false := by simpa using c2
            have hX : isX (bn s) = false := by rw [HXD.out]; exact decide_eq_false (fun h => h.2.2.elim c1 c2)
            have hO : isO (bn s) = true := by rw [HOD.out]; exact decide_eq_true ⟨h2, c0⟩
            clear HXD HOD c0 c1 c2
            have HB : Hid (base (bn s) = 8) := by show _ = _; unfold base; rw [hX, hO]; rfl
            have HTS : Hid (bn (tail s) = rest (bn s)) := tail_bn s
            have HTE : Hid (tail s = s.extract 1 s.size) := by show _ = _; unfold tail; rw [hX, hO]; rfl
            clear hX hO
            go_enter Tryd.func9, Tryd.ntmps9
            go_wp2_with fail
            obtain ⟨T, hT⟩ : ∃ T, s.extract 1 s.size = T := ⟨_, rfl⟩
            rw [hT] at HTE ⊢
            have HT : Hid (bn T = rest (bn s)) := by show _ = _; rw [← HTE.out]; exact HTS.out
            have hTs : T.size ≤ 100000 := by rw [← HTE.out]; exact Nat.le_trans (tail_size s) hs
            clear HTE HTS hT
            have HBD := hid (fun j (h : j < T.size) => byte_bd (s := T) h)
            have HGT := hid (bn_get T)
            have HBAD : Hid (∀ k, k < T.size → good 8 ((bn T)[k]?.getD 0) = false → num (bn s) = (0, 8)) := fun k hk h => num_bad hl (by rw [HB.out, ← HT.out]; exact ok_take_bad (by rw [bn_length]; exact hk) h)
            have HEND : Hid (ok 8 (bn T) = true → num (bn s) = if 4294967296 ≤ cap 8 (bn T) then (0, 4) else (cap 8 (bn T), 0)) := fun h => by
              have := num_end hl (by rw [HB.out, ← HT.out]; exact h)
              rw [HB.out, ← HT.out] at this
              exact this
            have HNR : Hid (∀ (x : Nat) (y : Int) e, num (bn s) = (x, y) → e = .returned (.tuple #[.int .u64 x, .int .i64 y]) → NumR (bn s) e) := fun x y e h he => by unfold NumR; rw [h]; exact he
            have HLN := hid (bn_length T)
            go_loop [5, 6] (fun v5 v6 => ∃ (k n : Nat), k ≤ T.size ∧ n ≤ 4294967296 ∧ v5 = .int .u64 n ∧ v6 = .int .i64 k ∧ Hid (n = cap 8 ((bn T).take k)) ∧ Hid (ok 8 ((bn T).take k) = true)) (fun _ v6 => T.size - (intOf v6).toNat)
            case atStart => exact ⟨0, 0, Nat.zero_le _, by omega, rfl, rfl, rfl, rfl⟩
            case round =>
              obtain ⟨k, n, hk, hn, rfl, rfl, HC, HO⟩ := hrel
              by_cases hlt : k < T.size
              · have hg := (HGT.out k hlt).symm
                obtain ⟨hb0, hb1⟩ := HBD.out k hlt
                have HX := hid (rhex_any _ hb0 hb1)
                have HBK := hid (HBAD.out k hlt)
                have q := hx_bd ((bn T)[k]?.getD 0)
                have HGD : Hid (good 8 ((bn T)[k]?.getD 0) = decide (0 ≤ hx ((bn T)[k]?.getD 0) ∧ hx ((bn T)[k]?.getD 0) < 8)) := rfl
                have HTK := hid (take_one (bn T) k (by rw [HLN.out]; exact hlt))
                have HCS : Hid (cap 8 ((bn T).take (k + 1)) = min (n * 8 + (hx ((bn T)[k]?.getD 0)).toNat) 4294967296) := by show _ = _; rw [HTK.out, cap_snoc (by decide), ← HC.out]
                have HOS : Hid (ok 8 ((bn T).take (k + 1)) = good 8 ((bn T)[k]?.getD 0)) := by show _ = _; rw [HTK.out, ok_snoc, HO.out, Bool.true_and]
                obtain ⟨d, hd⟩ : ∃ d, hx ((bn T)[k]?.getD 0) = d := ⟨_, rfl⟩
                rw [hd] at HX q HGD HCS
                obtain ⟨G, hG⟩ : ∃ G, good 8 ((bn T)[k]?.getD 0) = G := ⟨_, rfl⟩
                rw [hG] at HBK HGD HOS
                obtain ⟨y, hy⟩ : ∃ y, (bn T)[k]?.getD 0 = y := ⟨_, rfl⟩
                rw [hy] at hg HX hb0 hb1
                obtain ⟨q0, q1⟩ := q
                clear hd hG hy HTK HGT HBD HBAD HEND
                by_cases hn0 : d < 0
                · have HR := hid (HBK.out (by rw [HGD.out]; exact decide_eq_false (by omega)))
                  clear HGD HBK HCS HOS HC HO
                  go_wp2_with (go_at_call 19; refine (HX.out _).mono ?_; rintro e w2 ⟨rfl, hw2⟩; obtain rfl := hw2.symm)
                  go_ret2
                  exact ⟨HNR.out _ _ _ HR.out rfl, rfl⟩
                · by_cases hnb : 8 ≤ d
                  · have HR := hid (HBK.out (by rw [HGD.out]; exact decide_eq_false (by omega)))
                    clear HGD HBK HCS HOS HC HO
                    go_wp2_with (go_at_call 19; refine (HX.out _).mono ?_; rintro e w2 ⟨rfl, hw2⟩; obtain rfl := hw2.symm)
                    go_ret2
                    exact ⟨HNR.out _ _ _ HR.out rfl, rfl⟩
                  · have HGT' : Hid (G = true) := by show _ = _; rw [HGD.out]; exact decide_eq_true (by omega)
                    obtain ⟨x, hx'⟩ : ∃ x : Nat, d = (x : Int) := ⟨d.toNat, by omega⟩
                    subst hx'
                    have hnbz : ¬ ((8 : Int) ≤ (x : Int)) := hnb
                    clear HGD HBK HC HO
                    go_wp2_with (go_at_call 19; refine (HX.out _).mono ?_; rintro e w2 ⟨rfl, hw2⟩; obtain rfl := hw2.symm)
                    refine ⟨⟨k + 1, min (n * 8 + x) 4294967296, by omega, by omega, ?_, by go_num, ?_, ?_⟩, by simp [intOf]; omega⟩
                    · congr 1
                      omega
                    · show _ = _
                      rw [HCS.out]; rfl
                    · show _ = _
                      rw [HOS.out, HGT'.out]
              · have ht : (bn T).take k = bn T := List.take_of_length_le (by rw [HLN.out]; omega)
                rw [ht] at HC HO
                have HR := hid (HEND.out HO.out)
                rw [← HC.out] at HR
                clear ht HC HO HBAD HEND HGT HBD
                by_cases hnl : 4294967296 ≤ n
                · have HR' := hid (HR.out.trans (if_pos hnl))
                  have hnz : (4294967296 : Int) ≤ (n : Int) := by omega
                  clear HR
                  go_wp2
                  go_ret2
                  exact ⟨HNR.out _ _ _ HR'.out rfl, rfl⟩
                · have HR' := hid (HR.out.trans (if_neg hnl))
                  have hnz : ¬ (4294967296 : Int) ≤ (n : Int) := by omega
                  clear HR
                  go_wp2
                  go_ret2
                  exact ⟨HNR.out _ _ _ HR'.out rfl, rfl⟩
      · have b0 : (e0 == 48) = false := by simpa using c0
        have hX : isX (bn s) = false := by rw [HXD.out]; exact decide_eq_false (fun h => c0 h.2.1)
        have hO : isO (bn s) = false := by rw [HOD.out]; exact decide_eq_false (fun h => c0 h.2)
        clear HXD HOD c0
        have HB : Hid (base (bn s) = 10) := by show _ = _; unfold base; rw [hX, hO]; rfl
        have HTS : Hid (bn (tail s) = rest (bn s)) := tail_bn s
        have HTE : Hid (tail s = s) := by show _ = _; unfold tail; rw [hX, hO]; rfl
        clear hX hO
        go_enter Tryd.func9, Tryd.ntmps9
        go_wp2_with fail
        have HT : Hid (bn s = rest (bn s)) := by show _ = _; rw [← HTS.out, HTE.out]
        have hTs : s.size ≤ 100000 := hs
        clear HTE HTS
        have HBD := hid (fun j (h : j < s.size) => byte_bd (s := s) h)
        have HGT := hid (bn_get s)
        have HBAD : Hid (∀ k, k < s.size → good 10 ((bn s)[k]?.getD 0) = false → num (bn s) = (0, 8)) := fun k hk h => num_bad hl (by rw [HB.out, ← HT.out]; exact ok_take_bad (by rw [bn_length]; exact hk) h)
        have HEND : Hid (ok 10 (bn s) = true → num (bn s) = if 4294967296 ≤ cap 10 (bn s) then (0, 4) else (cap 10 (bn s), 0)) := fun h => by
          have := num_end hl (by rw [HB.out, ← HT.out]; exact h)
          rw [HB.out, ← HT.out] at this
          exact this
        have HNR : Hid (∀ (x : Nat) (y : Int) e, num (bn s) = (x, y) → e = .returned (.tuple #[.int .u64 x, .int .i64 y]) → NumR (bn s) e) := fun x y e h he => by unfold NumR; rw [h]; exact he
        have HLN := hid (bn_length s)
        go_loop [5, 6] (fun v5 v6 => ∃ (k n : Nat), k ≤ s.size ∧ n ≤ 4294967296 ∧ v5 = .int .u64 n ∧ v6 = .int .i64 k ∧ Hid (n = cap 10 ((bn s).take k)) ∧ Hid (ok 10 ((bn s).take k) = true)) (fun _ v6 => s.size - (intOf v6).toNat)
        case atStart => exact ⟨0, 0, Nat.zero_le _, by omega, rfl, rfl, rfl, rfl⟩
        case round =>
          obtain ⟨k, n, hk, hn, rfl, rfl, HC, HO⟩ := hrel
          by_cases hlt : k < s.size
          · have hg := (HGT.out k hlt).symm
            obtain ⟨hb0, hb1⟩ := HBD.out k hlt
            have HX := hid (rhex_any _ hb0 hb1)
            have HBK := hid (HBAD.out k hlt)
            have q := hx_bd ((bn s)[k]?.getD 0)
            have HGD : Hid (good 10 ((bn s)[k]?.getD 0) = decide (0 ≤ hx ((bn s)[k]?.getD 0) ∧ hx ((bn s)[k]?.getD 0) < 10)) := rfl
            have HTK := hid (take_one (bn s) k (by rw [HLN.out]; exact hlt))
            have HCS : Hid (cap 10 ((bn s).take (k + 1)) = min (n * 10 + (hx ((bn s)[k]?.getD 0)).toNat) 4294967296) := by show _ = _; rw [HTK.out, cap_snoc (by decide), ← HC.out]
            have HOS : Hid (ok 10 ((bn s).take (k + 1)) = good 10 ((bn s)[k]?.getD 0)) := by show _ = _; rw [HTK.out, ok_snoc, HO.out, Bool.true_and]
            obtain ⟨d, hd⟩ : ∃ d, hx ((bn s)[k]?.getD 0) = d := ⟨_, rfl⟩
            rw [hd] at HX q HGD HCS
            obtain ⟨G, hG⟩ : ∃ G, good 10 ((bn s)[k]?.getD 0) = G := ⟨_, rfl⟩
            rw [hG] at HBK HGD HOS
            obtain ⟨y, hy⟩ : ∃ y, (bn s)[k]?.getD 0 = y := ⟨_, rfl⟩
            rw [hy] at hg HX hb0 hb1
            obtain ⟨q0, q1⟩ := q
            clear hd hG hy HTK HGT HBD HBAD HEND
            by_cases hn0 : d < 0
            · have HR := hid (HBK.out (by rw [HGD.out]; exact decide_eq_false (by omega)))
              clear HGD HBK HCS HOS HC HO
              go_wp2_with (go_at_call 19; refine (HX.out _).mono ?_; rintro e w2 ⟨rfl, hw2⟩; obtain rfl := hw2.symm)
              go_ret2
              exact ⟨HNR.out _ _ _ HR.out rfl, rfl⟩
            · by_cases hnb : 10 ≤ d
              · have HR := hid (HBK.out (by rw [HGD.out]; exact decide_eq_false (by omega)))
                clear HGD HBK HCS HOS HC HO
                go_wp2_with (go_at_call 19; refine (HX.out _).mono ?_; rintro e w2 ⟨rfl, hw2⟩; obtain rfl := hw2.symm)
                go_ret2
                exact ⟨HNR.out _ _ _ HR.out rfl, rfl⟩
              · have HGT' : Hid (G = true) := by show _ = _; rw [HGD.out]; exact decide_eq_true (by omega)
                obtain ⟨x, hx'⟩ : ∃ x : Nat, d = (x : Int) := ⟨d.toNat, by omega⟩
                subst hx'
                have hnbz : ¬ ((10 : Int) ≤ (x : Int)) := hnb
                clear HGD HBK HC HO
                go_wp2_with (go_at_call 19; refine (HX.out _).mono ?_; rintro e w2 ⟨rfl, hw2⟩; obtain rfl := hw2.symm)
                refine ⟨⟨k + 1, min (n * 10 + x) 4294967296, by omega, by omega, ?_, by go_num, ?_, ?_⟩, by simp [intOf]; omega⟩
                · congr 1
                  omega
                · show _ = _
                  rw [HCS.out]; rfl
                · show _ = _
                  rw [HOS.out, HGT'.out]
          · have ht : (bn s).take k = bn s := List.take_of_length_le (by rw [HLN.out]; omega)
            rw [ht] at HC HO
            have HR := hid (HEND.out HO.out)
            rw [← HC.out] at HR
            clear ht HC HO HBAD HEND HGT HBD
            by_cases hnl : 4294967296 ≤ n
            · have HR' := hid (HR.out.trans (if_pos hnl))
              have hnz : (4294967296 : Int) ≤ (n : Int) := by omega
              clear HR
              go_wp2
              go_ret2
              exact ⟨HNR.out _ _ _ HR'.out rfl, rfl⟩
            · have HR' := hid (HR.out.trans (if_neg hnl))
              have hnz : ¬ (4294967296 : Int) ≤ (n : Int) := by omega
              clear HR
              go_wp2
              go_ret2
              exact ⟨HNR.out _ _ _ HR'.out rfl, rfl⟩
    · have h2z : ¬ (2 : Int) ≤ (s.size : Int) := by omega
      have hX : isX (bn s) = false := by unfold isX; exact decide_eq_false (fun h => h2 (by have := h.1; rw [bn_length] at this; exact this))
      have hO : isO (bn s) = false := by unfold isO; exact decide_eq_false (fun h => h2 (by have := h.1; rw [bn_length] at this; exact this))
      have HB : Hid (base (bn s) = 10) := by show _ = _; unfold base; rw [hX, hO]; rfl
      have HTS : Hid (bn (tail s) = rest (bn s)) := tail_bn s
      have HTE : Hid (tail s = s) := by show _ = _; unfold tail; rw [hX, hO]; rfl
      clear hX hO
      go_enter Tryd.func9, Tryd.ntmps9
      go_wp2_with fail
      have HT : Hid (bn s = rest (bn s)) := by show _ = _; rw [← HTS.out, HTE.out]
      have hTs : s.size ≤ 100000 := hs
      clear HTE HTS
      have HBD := hid (fun j (h : j < s.size) => byte_bd (s := s) h)
      have HGT := hid (bn_get s)
      have HBAD : Hid (∀ k, k < s.size → good 10 ((bn s)[k]?.getD 0) = false → num (bn s) = (0, 8)) := fun k hk h => num_bad hl (by rw [HB.out, ← HT.out]; exact ok_take_bad (by rw [bn_length]; exact hk) h)
      have HEND : Hid (ok 10 (bn s) = true → num (bn s) = if 4294967296 ≤ cap 10 (bn s) then (0, 4) else (cap 10 (bn s), 0)) := fun h => by
        have := num_end hl (by rw [HB.out, ← HT.out]; exact h)
        rw [HB.out, ← HT.out] at this
        exact this
      have HNR : Hid (∀ (x : Nat) (y : Int) e, num (bn s) = (x, y) → e = .returned (.tuple #[.int .u64 x, .int .i64 y]) → NumR (bn s) e) := fun x y e h he => by unfold NumR; rw [h]; exact he
      have HLN := hid (bn_length s)
      go_loop [5, 6] (fun v5 v6 => ∃ (k n : Nat), k ≤ s.size ∧ n ≤ 4294967296 ∧ v5 = .int .u64 n ∧ v6 = .int .i64 k ∧ Hid (n = cap 10 ((bn s).take k)) ∧ Hid (ok 10 ((bn s).take k) = true)) (fun _ v6 => s.size - (intOf v6).toNat)
      case atStart => exact ⟨0, 0, Nat.zero_le _, by omega, rfl, rfl, rfl, rfl⟩
      case round =>
        obtain ⟨k, n, hk, hn, rfl, rfl, HC, HO⟩ := hrel
        by_cases hlt : k < s.size
        · have hg := (HGT.out k hlt).symm
          obtain ⟨hb0, hb1⟩ := HBD.out k hlt
          have HX := hid (rhex_any _ hb0 hb1)
          have HBK := hid (HBAD.out k hlt)
          have q := hx_bd ((bn s)[k]?.getD 0)
          have HGD : Hid (good 10 ((bn s)[k]?.getD 0) = decide (0 ≤ hx ((bn s)[k]?.getD 0) ∧ hx ((bn s)[k]?.getD 0) < 10)) := rfl
          have HTK := hid (take_one (bn s) k (by rw [HLN.out]; exact hlt))
          have HCS : Hid (cap 10 ((bn s).take (k + 1)) = min (n * 10 + (hx ((bn s)[k]?.getD 0)).toNat) 4294967296) := by show _ = _; rw [HTK.out, cap_snoc (by decide), ← HC.out]
          have HOS : Hid (ok 10 ((bn s).take (k + 1)) = good 10 ((bn s)[k]?.getD 0)) := by show _ = _; rw [HTK.out, ok_snoc, HO.out, Bool.true_and]
          obtain ⟨d, hd⟩ : ∃ d, hx ((bn s)[k]?.getD 0) = d := ⟨_, rfl⟩
          rw [hd] at HX q HGD HCS
          obtain ⟨G, hG⟩ : ∃ G, good 10 ((bn s)[k]?.getD 0) = G := ⟨_, rfl⟩
          rw [hG] at HBK HGD HOS
          obtain ⟨y, hy⟩ : ∃ y, (bn s)[k]?.getD 0 = y := ⟨_, rfl⟩
          rw [hy] at hg HX hb0 hb1
          obtain ⟨q0, q1⟩ := q
          clear hd hG hy HTK HGT HBD HBAD HEND
          by_cases hn0 : d < 0
          · have HR := hid (HBK.out (by rw [HGD.out]; exact decide_eq_false (by omega)))
            clear HGD HBK HCS HOS HC HO
            go_wp2_with (go_at_call 19; refine (HX.out _).mono ?_; rintro e w2 ⟨rfl, hw2⟩; obtain rfl := hw2.symm)
            go_ret2
            exact ⟨HNR.out _ _ _ HR.out rfl, rfl⟩
          · by_cases hnb : 10 ≤ d
            · have HR := hid (HBK.out (by rw [HGD.out]; exact decide_eq_false (by omega)))
              clear HGD HBK HCS HOS HC HO
              go_wp2_with (go_at_call 19; refine (HX.out _).mono ?_; rintro e w2 ⟨rfl, hw2⟩; obtain rfl := hw2.symm)
              go_ret2
              exact ⟨HNR.out _ _ _ HR.out rfl, rfl⟩
            · have HGT' : Hid (G = true) := by show _ = _; rw [HGD.out]; exact decide_eq_true (by omega)
              obtain ⟨x, hx'⟩ : ∃ x : Nat, d = (x : Int) := ⟨d.toNat, by omega⟩
              subst hx'
              have hnbz : ¬ ((10 : Int) ≤ (x : Int)) := hnb
              clear HGD HBK HC HO
              go_wp2_with (go_at_call 19; refine (HX.out _).mono ?_; rintro e w2 ⟨rfl, hw2⟩; obtain rfl := hw2.symm)
              refine ⟨⟨k + 1, min (n * 10 + x) 4294967296, by omega, by omega, ?_, by go_num, ?_, ?_⟩, by simp [intOf]; omega⟩
              · congr 1
                omega
              · show _ = _
                rw [HCS.out]; rfl
              · show _ = _
                rw [HOS.out, HGT'.out]
        · have ht : (bn s).take k = bn s := List.take_of_length_le (by rw [HLN.out]; omega)
          rw [ht] at HC HO
          have HR := hid (HEND.out HO.out)
          rw [← HC.out] at HR
          clear ht HC HO HBAD HEND HGT HBD
          by_cases hnl : 4294967296 ≤ n
          · have HR' := hid (HR.out.trans (if_pos hnl))
            have hnz : (4294967296 : Int) ≤ (n : Int) := by omega
            clear HR
            go_wp2
            go_ret2
            exact ⟨HNR.out _ _ _ HR'.out rfl, rfl⟩
          · have HR' := hid (HR.out.trans (if_neg hnl))
            have hnz : ¬ (4294967296 : Int) ≤ (n : Int) := by omega
            clear HR
            go_wp2
            go_ret2
            exact ⟨HNR.out _ _ _ HR'.out rfl, rfl⟩
end Go.Proofs.YtklplalfcpigcaaDoor.F
