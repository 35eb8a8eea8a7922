/- four.Number. (Stage 10.) -/
import Derived.Test.YtklplalfcpigcaaDoorFK
namespace Go.Proofs.YtklplalfcpigcaaDoor.F
open Go.RowKit
set_option linter.unusedVariables false
set_option maxRecDepth 100000 in
set_option maxHeartbeats 8000000 in
theorem number_any (s : ByteArray) (w : World) (hs : s.size ≤ 100000) :
    Calls Tryd.prog 8 #[.string s] w fun e W' => NumR (bn s) e ∧ Below w.heap.size w W' := by
  by_cases h0 : s.size = 0
  · have he : s.toList.isEmpty = true := isEmpty_true s h0
    have hn : num (bn s) = (0, 8) := by
      have : bn s = [] := List.length_eq_zero_iff.1 (by rw [bn_length]; exact h0)
      rw [this]; rfl
    have HR : Hid (∀ e, e = .returned (.tuple #[.int .u64 0, .int .i64 8]) → NumR (bn s) e) := fun e h => by unfold NumR; rw [hn]; exact h
    clear hn
    go_enter Tryd.func8, Tryd.ntmps8
    go_wp2
    go_ret2
    exact ⟨HR.out _ rfl, Below.refl _ _⟩
  · have he : s.toList.isEmpty = false := isEmpty_false s (by omega)
    have hl : bn s ≠ [] := fun e => h0 (by rw [← bn_length, e]; rfl)
    have HTS : Hid (bn (tail s) = rest (bn s)) := tail_bn s
    have HTZ := tail_size s
    have HCU := hid (fun W => cut_any s W hs (by omega))
    have hb16 : base (bn s) ≤ 16 := by unfold base; (repeat' split) <;> omega
    have HB1 := hid (base_pos (bn s))
    have HBAD : Hid (∀ k, k < (tail s).size → good (base (bn s)) ((bn (tail s))[k]?.getD 0) = false → num (bn s) = (0, 8)) := fun k hk h => num_bad hl (by rw [← HTS.out]; exact ok_take_bad (by rw [bn_length]; exact hk) h)
    have HEND : Hid (ok (base (bn s)) (bn (tail s)) = true → num (bn s) = if 4294967296 ≤ cap (base (bn s)) (bn (tail s)) then (0, 4) else (cap (base (bn s)) (bn (tail s)), 0)) := fun h => by
      rw [HTS.out] at h ⊢
      exact num_end hl h
    have HNR : Hid (∀ (x : Nat) (y : Int) e, num (bn s) = (x, y) → e = .returned (.tuple #[.int .u64 x, .int .i64 y]) → NumR (bn s) e) := fun x y e h he => by unfold NumR; rw [h]; exact he
    obtain ⟨b, hb⟩ : ∃ b, base (bn s) = b := ⟨_, rfl⟩
    obtain ⟨T, hT⟩ : ∃ T, tail s = T := ⟨_, rfl⟩
    rw [hb] at HCU hb16 HB1 HBAD HEND
    rw [hT] at HCU HTZ HBAD HEND
    clear hb hT HTS hl
    have hTs : T.size ≤ 100000 := by omega
    have HBD := hid (fun j (h : j < T.size) => byte_bd (s := T) h)
    have HGT := hid (bn_get T)
    have HLN := hid (bn_length T)
    go_enter Tryd.func8, Tryd.ntmps8
    go_wp2_with (first
      | (go_at_call 17; refine (HCU.out _).mono ?_; rintro e w2 ⟨rfl, hw2⟩; obtain rfl := hw2.symm)
      | (go_at_call 18; refine (reader_any _ _).mono ?_; rintro e w3 ⟨rfl, hc3, B3⟩; unfold readF))
    have HC3 := hid hc3
    have HB3 := hid B3
    have HRB := hid (read_bad b)
    have HRG := hid (read_good b)
    clear hc3 B3 HCU
    go_loop [2, 21] (fun v2 v21 => ∃ (k n : Nat), k ≤ T.size ∧ n ≤ 4294967296 ∧ v2 = .int .u64 n ∧ v21 = .int .i64 k ∧ Hid (n = cap b ((bn T).take k)) ∧ Hid (ok b ((bn T).take k) = true)) (fun _ v21 => T.size - (intOf v21).toNat)
    case atStart => exact ⟨0, 0, Nat.zero_le _, by omega, rfl, rfl, rfl, rfl⟩
    case round =>
      obtain ⟨k, n, hk, hn, rfl, rfl, HC, HO⟩ := hrel
      by_cases hlt : k < T.size
      · have hg := (HGT.out k hlt).symm
        obtain ⟨hb0, hb1⟩ := HBD.out k hlt
        have HBK := hid (HBAD.out k hlt)
        have HTK := hid (take_one (bn T) k (by rw [HLN.out]; exact hlt))
        have HCS : Hid (cap b ((bn T).take (k + 1)) = min (n * b + (hx ((bn T)[k]?.getD 0)).toNat) 4294967296) := by show _ = _; rw [HTK.out, cap_snoc HB1.out, ← HC.out]
        have HOS : Hid (ok b ((bn T).take (k + 1)) = good b ((bn T)[k]?.getD 0)) := by show _ = _; rw [HTK.out, ok_snoc, HO.out, Bool.true_and]
        have hltz : (k : Int) < (T.size : Int) := by omega
        obtain ⟨y, hy⟩ : ∃ y, (bn T)[k]?.getD 0 = y := ⟨_, rfl⟩
        rw [hy] at hg hb0 hb1 HBK HCS HOS
        clear hy HTK HGT HBD HBAD HEND
        cases hG : good b y with
        | false =>
          have HR := hid (HBK.out hG)
          have HX := hid (HRB.out n y w.heap.size w3 hb0 hb1 hb16 hG HC3.out)
          clear HBK HCS HOS HC HO hG HRB HRG
          go_wp2_with (go_at_call 28; refine HX.out.mono ?_; rintro e w4 ⟨rfl, hw4⟩; obtain rfl := hw4.symm)
          go_ret2
          exact ⟨HNR.out _ _ _ HR.out rfl, HB3.out⟩
        | true =>
          have HX := hid (HRG.out n y w.heap.size w3 hb0 hb1 hb16 hn hG HC3.out)
          have HGT' := hid hG
          obtain ⟨z, hz⟩ : ∃ z, min (n * b + (hx y).toNat) 4294967296 = z := ⟨_, rfl⟩
          rw [hz] at HX HCS
          have hz2 : z ≤ 4294967296 := by omega
          clear hz HBK HC HO hG HRB HRG
          go_wp2_with (go_at_call 28; refine HX.out.mono ?_; rintro e w4 ⟨rfl, hw4⟩; obtain rfl := hw4.symm)
          refine ⟨⟨k + 1, z, by omega, hz2, rfl, by go_num, ?_, ?_⟩, by simp [intOf]; omega⟩
          · show _ = _
            rw [HCS.out]
          · show _ = _
            rw [HOS.out, HGT'.out]
      · have ht : (bn T).take k = bn T := List.take_of_length_le (by rw [HLN.out]; omega)
        rw [ht] at HC HO
        have HR := hid (HEND.out HO.out)
        rw [← HC.out] at HR
        have hltz : ¬ (k : Int) < (T.size : Int) := by omega
        clear ht HC HO HBAD HEND HGT HBD HRB HRG
        by_cases hnl : 4294967296 ≤ n
        · have HR' := hid (HR.out.trans (if_pos hnl))
          have hnz : (4294967296 : Int) ≤ (n : Int) := by omega
          clear HR
          go_wp2
          go_ret2
          exact ⟨HNR.out _ _ _ HR'.out rfl, HB3.out⟩
        · have HR' := hid (HR.out.trans (if_neg hnl))
          have hnz : ¬ (4294967296 : Int) ≤ (n : Int) := by omega
          clear HR
          go_wp2
          go_ret2
          exact ⟨HNR.out _ _ _ HR'.out rfl, HB3.out⟩
end Go.Proofs.YtklplalfcpigcaaDoor.F
