/- The program's Decode. -/
import Derived.Test.YtnkbfpmaifgenaaHD
namespace Go.Proofs.Ytnkbfpmaifgenaa.E
open Go.RowKit
set_option linter.unusedVariables false

theorem front_no {l : List Int} (hl : 0 < l.length) (h : ¬ isTold l) : de l = l[0]?.getD 0 :: de (l.drop 1) := by
  match l, hl, h with
  | c :: t, _, h =>
    refine de_no (fun hh => h ⟨hh.1, ?_, ?_, ?_⟩)
    · simp; omega
    · exact hh.2.2.1
    · exact hh.2.2.2
theorem front_yes {l : List Int} (h : isTold l) : de l = (16 * hx (l[1]?.getD 0) + hx (l[2]?.getD 0)) :: de (l.drop 3) := by
  match l, h with
  | [], h => exact absurd h.2.1 (by simp)
  | [a], h => exact absurd h.2.1 (by simp)
  | [a, b], h => exact absurd h.2.1 (by simp)
  | c :: a :: b :: t, h =>
    have hc : c = 37 := h.1
    rw [hc]
    exact de_yes h.2.2.1 h.2.2.2
theorem told_long {l : List Int} (h : isTold l) : 3 ≤ l.length := by have := h.2.1; omega
theorem told_bd {l : List Int} (h : isTold l) : 0 ≤ 16 * hx (l[1]?.getD 0) + hx (l[2]?.getD 0) ∧ 16 * hx (l[1]?.getD 0) + hx (l[2]?.getD 0) ≤ 255 := by
  have h1 := hx_bd (l[1]?.getD 0)
  have h2 := hx_bd (l[2]?.getD 0)
  have := h.2.2
  omega
theorem de_bytes : ∀ (n : Nat) (l : List Int), l.length ≤ n → U.Bytes l → U.Bytes (de l)
  | _, [], _, h => h
  | _, [a], _, h => h
  | _, [a, b], _, h => h
  | 0, c :: a :: b :: t, h, _ => by simp at h
  | n + 1, c :: a :: b :: t, h, hB => by
    rw [de]
    split
    · have h1 := hx_bd a
      have h2 := hx_bd b
      rename_i hc
      have ih := de_bytes n t (by simp at h; omega) (fun x hx => hB x (by simp [hx]))
      intro x hx
      rcases List.mem_cons.1 hx with rfl | hx
      · omega
      · exact ih x hx
    · have ih := de_bytes n (a :: b :: t) (by simp at h ⊢; omega) (fun x hx => hB x (by simp at hx ⊢; right; exact hx))
      intro x hx
      rcases List.mem_cons.1 hx with rfl | hx
      · exact hB x (by simp)
      · exact ih x hx
set_option maxRecDepth 100000 in
set_option maxHeartbeats 4000000 in
theorem pdecode_any (s : ByteArray) (w : World) (hs : s.size ≤ 100000) :
    Calls Try.prog 11 #[.string s] w fun e W' => DecR (U.bn s) w e W' := by
  obtain ⟨i0, hi, hz0, hz1, hz2⟩ := info_parts U.Try.info5
  have HGS : Hid (∀ e W, ((∃ t, e = .returned (.string t) ∧ U.bn t = de (U.bn s)) ∧ Below w.heap.size w W) → DecR (U.bn s) w e W) := fun e W h => h
  have HBY := hid (de_bytes _ (U.bn s) (Nat.le_refl _) (U.bn_bytes s))
  have HFR : Hid (∀ i, i < s.size → ∀ W, Calls Try.prog 20 #[.string (s.extract i s.size)] W fun e W' => (∃ (b : Int) (n : Nat), e = .returned (.tuple #[.int .u8 b, .int .i64 n]) ∧ i + n ≤ s.size ∧ 1 ≤ n ∧ Hid (de ((U.bn s).drop i) = b :: de ((U.bn s).drop (i + n)))) ∧ W' = W) := fun i h W => by
    have hz : (s.extract i s.size).size = s.size - i := by simp
    have hl : ((U.bn s).drop i).length = s.size - i := by rw [List.length_drop, U.bn_length]
    refine (front_any (s.extract i s.size) (by omega) (by omega) W).mono ?_
    rintro e W' ⟨hh, rfl⟩
    refine ⟨?_, rfl⟩
    rw [U.bn_extract] at hh
    rcases hh with ⟨b, rfl, rfl, ht⟩ | ⟨b, rfl, rfl, ht⟩
    · refine ⟨_, 1, rfl, by omega, by omega, ?_⟩
      show _ = _
      rw [front_no (by omega) ht, List.drop_drop]
    · have := told_long ht
      refine ⟨_, 3, rfl, by omega, by omega, ?_⟩
      show _ = _
      rw [front_yes ht, List.drop_drop]
  go_enter Try.func11, Try.ntmps11
  go_wp2_with fail
  go_loopw [3, 4] (fun v3 v4 wr => ∃ (i m c : Nat) (a : Option Addr) (Y : List Int), i ≤ s.size ∧ m ≤ i ∧ v3 = .slice a m c ∧ v4 = .int .i64 i ∧ Hid (m = Y.length) ∧ Hid (de (U.bn s) = Y ++ de ((U.bn s).drop i)) ∧ Hid (wr.ownsRow w.heap.size 5 1 (.slice a m c) m (Y.map (Value.int .u8))) ∧ Hid (Below w.heap.size w wr)) (fun _ v4 _ => s.size - (intOf v4).toNat)
  case atStart => exact ⟨0, 0, 0, none, [], Nat.zero_le _, Nat.le_refl _, rfl, rfl, rfl, by show _ = _; rw [List.drop_zero]; rfl, World.ownsRow_nil _ _ _ _, Below.refl _ _⟩
  case round =>
    obtain ⟨i, m, c, a, Y, hin, hmi, rfl, rfl, HM, HD, HR, HB⟩ := hrel
    by_cases hlt : i < s.size
    · have HF := hid (HFR.out i hlt)
      have zj := HB.out.size
      go_wp2_with fail
      refine (HF.out _).mono ?_
      rintro e w1 ⟨⟨b, n, rfl, hn, hn1, HE⟩, hw1⟩
      obtain rfl := hw1.symm
      have HE2 : Hid (de (U.bn s) = (Y ++ [b]) ++ de ((U.bn s).drop (i + n))) := by show _ = _; rw [HD.out, HE.out]; simp
      clear HF HE HD
      have hnz : (i : Int) + (n : Int) ≤ (s.size : Int) := by omega
      go_wp2_with (at_builtin; refine wpList_append_own _ rfl _ _ 37 rfl w.heap.size 5 i0 (.int .u8 0) 1 1 Try.underlying37 hi hz0 hz1 hz2 rfl (by decide) _ _ _ rfl (HR.out.alloc _) ⟨wr.heap.size, 0, none⟩ 1 1 [.int .u8 b] rfl rfl (U.news_at _ _ _) (by simp [Value.oneCell']) (by unfold maxLen; omega) (by omega) (by simp; omega) ?_; intro v3 w3 r3 g3 _; obtain ⟨a3, c3, rfl⟩ := own_sh5 r3)
      go_roundw
      case rel =>
        refine ⟨i + n, m + 1, c3, a3, Y ++ [b], by omega, by omega, rfl, by go_num, by show _ = _; rw [List.length_append, ← HM.out]; rfl, HE2, ?_, U.below_grow (w1 := wr.alloc (.cells #[.int .u8 b] 5)) (HB.out.alloc HB.out.size _) (Nat.le_trans HB.out.size (by simp)) (HR.out.alloc _) g3⟩
        show World.ownsRow _ _ _ _ _ _ _
        rw [List.map_append]; exact r3
      case measure => simp [intOf]; omega
    · have hnil : (U.bn s).drop i = [] := List.drop_eq_nil_of_le (by rw [U.bn_length]; omega)
      have HE : Hid (de (U.bn s) = Y) := by show _ = _; rw [HD.out, hnil]; simp [de]
      obtain ⟨t, hcv, htb⟩ := U.conv_string wr w.heap.size _ _ Y HM.out (by rw [← HE.out]; exact HBY.out) HR.out
      have HTB := hid (htb.trans HE.out.symm)
      clear hnil htb HM HR HE HD HBY HFR
      go_wp2
      go_ret
      exact HGS.out _ _ ⟨⟨t, rfl, HTB.out⟩, HB.out⟩
end Go.Proofs.Ytnkbfpmaifgenaa.E
