/- The contract of the document's Text. -/
import Derived.Test.YtlgnnljleooenaaDoorAc
import Derived.Test.YtlgnnljleooenaaDoorAa
namespace Go.Proofs.YtlgnnljleooenaaDoor
open Go.RowKit
set_option linter.unusedVariables false

def textRel (m : List Sp) (w1 : World) (s i : Value) (wr : World) : Prop := ∃ (k : Nat) (S : ByteArray), k ≤ m.length ∧ i = .int .i64 (k : Int) ∧ s = .string S ∧ bn S = txt (m.take k) ∧ S.size ≤ 20 * k ∧ Below w1.heap.size w1 wr
theorem bn_lit (S : ByteArray) (c : UInt8) : bn (S ++ ⟨#[c]⟩) = bn S ++ [(c.toNat : Int)] := by rw [bn_append]; rfl
set_option maxRecDepth 100000 in
set_option maxHeartbeats 3200000 in
theorem rtext_any (v : Value) (a : List Sp) (hA : a.length ≤ 17179869184) (w : World) (hv : SpansAt w v a) :
    Calls Tryd.prog 26 #[v] w fun e W' => (∃ t m r, e = .returned (.tuple #[.string t, .int .i64 r]) ∧ RMade 0 a [] m r ∧ bn t = txt m) ∧ Below w.heap.size w W' := by
  go_enter Tryd.func26, Tryd.ntmps26
  go_wp2_with fail
  refine (rnorm_any v a hA w hv).mono ?_
  rintro e w1 ⟨⟨p, cap, m, r, rfl, hN, hS⟩, hB1⟩
  have hm9 := rmade_len hN
  have HN := hid' hN
  have HOK : Hid (m.all ok1 = true) := by
    rcases hN with ⟨hc, rfl, _⟩ | ⟨_, h2, _⟩ | ⟨hc, _, m', hm', h3⟩
    · rfl
    · exact absurd (by decide) h2
    · have hf := fits_has (chk_zero hc).2
      have hm2 := hm'.congr (rnorm_has hf)
      rcases h3 with ⟨_, rfl, _⟩ | ⟨_, rfl, _⟩
      · rfl
      · exact hm2.ok hf
  clear hN
  obtain ⟨a', cap', e', -, hs⟩ := hS
  simp only [Value.slice.injEq] at e'
  obtain ⟨rfl, -, rfl⟩ := e'
  go_wp2_with fail
  go_loopw [6, 7] (fun s i wr => textRel m w1 s i wr)
    (fun _ i _ => m.length - (intOf i).toNat)
  case atStart => exact ⟨0, ⟨#[]⟩, Nat.zero_le _, rfl, rfl, rfl, Nat.le_refl _, Below.refl _ _⟩
  case round =>
    obtain ⟨k, S, hk, rfl, rfl, hSb, hSz, hB⟩ := hrel
    have HSb := hid' hSb
    clear hSb
    by_cases hlt : k < m.length
    · obtain ⟨b, off, rfl, hc⟩ := hs (by omega)
      obtain ⟨x, y, HX, c1, c2, hb⟩ := SpansAt.elem (cap := cap) hlt hB hc
      have hxy := ok1_true_of (x, y) (by rw [← HX.out, List.getElem?_eq_getElem hlt]; exact List.all_eq_true.1 HOK.out _ (List.getElem_mem hlt))
      obtain ⟨h1, h2, h3⟩ := hxy
      dsimp only at h1 h2 h3
      obtain ⟨X, rfl⟩ : ∃ X : Nat, x = (X : Int) := ⟨x.toNat, by omega⟩
      obtain ⟨Y, rfl⟩ : ∃ Y : Nat, y = (Y : Int) := ⟨y.toNat, by omega⟩
      have HT : Hid (txt (m.take (k + 1)) = (if k = 0 then [] else txt (m.take k) ++ [44]) ++ txt1 ((X : Int), (Y : Int))) := by
        show _ = _
        rw [take_snoc m (0, 0) k hlt, HX.out]
        by_cases hk0 : k = 0
        · subst hk0; simp [txt]
        · rw [if_neg hk0, txt_one _ _ (by rw [List.length_take]; omega), List.append_assoc]; rfl
      have hbr : b < wr.heap.size := lt_of_cell c1
      have b0 : (0 : Int) ≤ (k : Int) := by omega
      have b1 : (k : Int) < (m.length : Int) := by omega
      clear hc hs HX
      by_cases hk0 : k = 0
      · have hk0' : ¬ (0 : Int) < (k : Int) := by omega
        have HTA : Hid (txt (m.take (k + 1)) = [] ++ txt1 ((X : Int), (Y : Int))) := by show _ = _; rw [HT.out, if_pos hk0]
        have HSA : Hid (bn S = []) := by show _ = _; rw [HSb.out, hk0]; rfl
        clear hk0 HT HSb
        go_wp2_with fail
        refine (rhex_any X (by omega) _).mono ?_
        rintro e w5 ⟨⟨t5, rfl, hb5n⟩, hb5⟩
        have hB5 := hB.trans (hb5.mono hB.size)
        have c5 := (hb5.cell (p := ⟨b, off + k * 2, none⟩) hbr).trans c1
        have c6 := (hb5.cell (p := ⟨b, off + k * 2 + 1, none⟩) hbr).trans c2
        have hs5 : t5.size ≤ 9 := by have := congrArg List.length hb5n; rw [bn_length] at this; have := hx_len X; omega
        have HB5 := hid' hb5n
        clear hb5n hb5 c1 c2 hB
        by_cases hXY : Y = X
        · subst hXY
          have HF : Hid (bn (S ++ t5) = txt (m.take (k + 1))) := by
            show _ = _
            rw [HTA.out, bn_append, HB5.out, HSA.out]; unfold txt1; dsimp only; rw [if_pos rfl]; simp
          have hz : (S ++ t5).size ≤ 20 * (k + 1) := by rw [ByteArray.size_append]; omega
          have HZ := hid' hz
          clear hz
          go_wp2_with fail
          go_quiet (fail)
          go_wp2_with fail
          go_roundw
          case rel => exact ⟨k + 1, _, by omega, by go_num, rfl, HF.out, HZ.out, below_drewN hB5 _⟩
          case measure => simp [intOf]; omega
        · have hne : ((Y : Int) == (X : Int)) = false := by simp; omega
          have hne2 : ((Y : Int) != (X : Int)) = true := by simp; omega
          have hbr5 : b < w5.heap.size := lt_of_cell c5
          have hz1 : (S ++ t5).size ≤ 20 * k + 10 := by rw [ByteArray.size_append]; omega
          obtain ⟨S2, hS2⟩ : ∃ S2, S2 = S ++ t5 := ⟨_, rfl⟩
          rw [← hS2] at hz1
          have HS2 := hid' hS2
          go_wp2_with fail
          go_quiet (fail)
          rw [← hS2]
          clear hS2
          have hB6 := below_drewN hB5 nq
          have c7 : (w5.drewN nq).cell? ⟨b, off + k * 2 + 1, none⟩ = some (.int .i32 (Y : Int)) := c6
          clear hB5 c5 c6
          generalize w5.drewN nq = w6 at hB6 c7 ⊢
          go_wp2_with fail
          refine (rhex_any Y (by omega) _).mono ?_
          rintro e w8 ⟨⟨t8, rfl, hb8n⟩, hb8⟩
          have hB8 := hB6.trans (hb8.mono hB6.size)
          have hs8 : t8.size ≤ 9 := by have := congrArg List.length hb8n; rw [bn_length] at this; have := hx_len Y; omega
          have HFF : Hid (bn (S2 ++ ⟨#[45]⟩ ++ t8) = txt (m.take (k + 1))) := by
            show _ = _
            rw [bn_append, bn_lit, hb8n, HS2.out, bn_append, HB5.out, HSA.out, HTA.out]
            unfold txt1; dsimp only; rw [if_neg (by omega)]; simp
          have hz2 : (S2 ++ ⟨#[45]⟩ ++ t8).size ≤ 20 * (k + 1) := by rw [ByteArray.size_append, ByteArray.size_append]; show S2.size + 1 + t8.size ≤ _; omega
          have hz3 : (S2 ++ ⟨#[45]⟩).size ≤ 20 * k + 11 := by rw [ByteArray.size_append]; show S2.size + 1 ≤ _; omega
          have HZ2 := hid' hz2
          clear hz2 hb8n hb8 c7
          go_wp2_with fail
          go_roundw
          case rel => exact ⟨k + 1, _, by omega, by go_num, rfl, HFF.out, HZ2.out, hB8⟩
          case measure => simp [intOf]; omega
      · have hk0' : (0 : Int) < (k : Int) := by omega
        have HTA : Hid (txt (m.take (k + 1)) = (txt (m.take k) ++ [44]) ++ txt1 ((X : Int), (Y : Int))) := by show _ = _; rw [HT.out, if_neg hk0]
        have hz0 : (S ++ ⟨#[44]⟩).size ≤ 20 * k + 1 := by rw [ByteArray.size_append]; show S.size + 1 ≤ _; omega
        have HSA : Hid (bn (S ++ ⟨#[44]⟩) = txt (m.take k) ++ [44]) := by show _ = _; rw [bn_lit, HSb.out]; rfl
        clear HT HSb
        go_wp2_with fail
        refine (rhex_any X (by omega) _).mono ?_
        rintro e w5 ⟨⟨t5, rfl, hb5n⟩, hb5⟩
        have hB5 := hB.trans (hb5.mono hB.size)
        have c5 := (hb5.cell (p := ⟨b, off + k * 2, none⟩) hbr).trans c1
        have c6 := (hb5.cell (p := ⟨b, off + k * 2 + 1, none⟩) hbr).trans c2
        have hs5 : t5.size ≤ 9 := by have := congrArg List.length hb5n; rw [bn_length] at this; have := hx_len X; omega
        have HB5 := hid' hb5n
        clear hb5n hb5 c1 c2 hB
        by_cases hXY : Y = X
        · subst hXY
          have HF : Hid (bn ((S ++ ⟨#[44]⟩) ++ t5) = txt (m.take (k + 1))) := by
            show _ = _
            rw [HTA.out, bn_append, HB5.out, HSA.out]; unfold txt1; dsimp only; rw [if_pos rfl]; simp
          have hz : ((S ++ ⟨#[44]⟩) ++ t5).size ≤ 20 * (k + 1) := by rw [ByteArray.size_append]; omega
          have HZ := hid' hz
          clear hz
          go_wp2_with fail
          go_quiet (fail)
          go_wp2_with fail
          go_roundw
          case rel => exact ⟨k + 1, _, by omega, by go_num, rfl, HF.out, HZ.out, below_drewN hB5 _⟩
          case measure => simp [intOf]; omega
        · have hne : ((Y : Int) == (X : Int)) = false := by simp; omega
          have hne2 : ((Y : Int) != (X : Int)) = true := by simp; omega
          have hbr5 : b < w5.heap.size := lt_of_cell c5
          have hz1 : ((S ++ ⟨#[44]⟩) ++ t5).size ≤ 20 * k + 10 := by rw [ByteArray.size_append]; omega
          obtain ⟨S2, hS2⟩ : ∃ S2, S2 = (S ++ ⟨#[44]⟩) ++ t5 := ⟨_, rfl⟩
          rw [← hS2] at hz1
          have HS2 := hid' hS2
          go_wp2_with fail
          go_quiet (fail)
          rw [← hS2]
          clear hS2
          have hB6 := below_drewN hB5 nq
          have c7 : (w5.drewN nq).cell? ⟨b, off + k * 2 + 1, none⟩ = some (.int .i32 (Y : Int)) := c6
          clear hB5 c5 c6
          generalize w5.drewN nq = w6 at hB6 c7 ⊢
          go_wp2_with fail
          refine (rhex_any Y (by omega) _).mono ?_
          rintro e w8 ⟨⟨t8, rfl, hb8n⟩, hb8⟩
          have hB8 := hB6.trans (hb8.mono hB6.size)
          have hs8 : t8.size ≤ 9 := by have := congrArg List.length hb8n; rw [bn_length] at this; have := hx_len Y; omega
          have HFF : Hid (bn (S2 ++ ⟨#[45]⟩ ++ t8) = txt (m.take (k + 1))) := by
            show _ = _
            rw [bn_append, bn_lit, hb8n, HS2.out, bn_append, HB5.out, HSA.out, HTA.out]
            unfold txt1; dsimp only; rw [if_neg (by omega)]; simp
          have hz2 : (S2 ++ ⟨#[45]⟩ ++ t8).size ≤ 20 * (k + 1) := by rw [ByteArray.size_append, ByteArray.size_append]; show S2.size + 1 + t8.size ≤ _; omega
          have hz3 : (S2 ++ ⟨#[45]⟩).size ≤ 20 * k + 11 := by rw [ByteArray.size_append]; show S2.size + 1 ≤ _; omega
          have HZ2 := hid' hz2
          clear hz2 hb8n hb8 c7
          go_wp2_with fail
          go_roundw
          case rel => exact ⟨k + 1, _, by omega, by go_num, rfl, HFF.out, HZ2.out, hB8⟩
          case measure => simp [intOf]; omega
    · have hkk : k = m.length := by omega
      have HF : Hid (bn S = txt m) := by have := HSb.out; rwa [hkk, List.take_length] at this
      have b1 : ¬ (k : Int) < (m.length : Int) := by omega
      clear hkk hs HSb
      go_wp2
      go_ret2
      exact ⟨⟨_, m, r, rfl, HN.out, HF.out⟩, hB1.trans (hB.mono hB1.size)⟩
end Go.Proofs.YtlgnnljleooenaaDoor
