/- Sorting that keeps what is equal: blocks that are sorted, and merged. -/
import Derived.Test.YtcgfbejcehiolaaSD
import Derived.Test.YtcgfbejcehiolaaSH
namespace Go.Proofs.Ytcgfbejcehiolaa
open Go.RowKit
set_option linter.unusedVariables false

/-- Sorted blocks of one size. -/
def Blk (s : Nat) (D : List (List Pt)) : Prop := ∀ d ∈ D, d.length = s ∧ Srt d
theorem Blk.len {s : Nat} : ∀ {D : List (List Pt)}, Blk s D → D.flatten.length = s * D.length
  | [], _ => by simp
  | d :: D, h => by
    have h1 := (h d (by simp)).1
    have h2 := Blk.len (D := D) (fun x hx => h x (by simp [hx]))
    simp only [List.flatten_cons, List.length_append, List.length_cons]
    rw [h1, h2, Nat.mul_add]; omega
theorem Blk.snoc {s : Nat} {D : List (List Pt)} {d : List Pt} (h : Blk s D) (h1 : d.length = s) (h2 : Srt d) : Blk s (D ++ [d]) := by
  intro x hx
  rcases List.mem_append.1 hx with hx | hx
  · exact h x hx
  · simp at hx; subst hx; exact ⟨h1, h2⟩
theorem Blk.nil (s : Nat) : Blk s [] := fun d hd => by cases hd
/-- One block is all. -/
theorem blk_done {s : Nat} {D : List (List Pt)} {F : List Pt} (h : Blk s D) (hF : Srt F) (hn : D.flatten.length + F.length ≤ s) (hs : 0 < s) : Srt (D.flatten ++ F) := by
  have hl := h.len
  match D, h, hl, hn with
  | [], _, _, _ => simpa using hF
  | [d], h, hl, hn =>
    have h1 := h d (by simp)
    have : F = [] := List.length_eq_zero_iff.1 (by simp at hn; omega)
    rw [this]; simpa using h1.2
  | d :: d' :: D, h, hl, hn =>
    have h1 := (h d (by simp)).1
    have h2 := (h d' (by simp)).1
    simp at hn; omega
theorem blk_two {s : Nat} {D : List (List Pt)} {F : List Pt} (h : Blk s D) (hF : F.length < s) (hn : 2 * s ≤ D.flatten.length + F.length) : ∃ X Y D', D = X :: Y :: D' := by
  have hl := h.len
  match D, h, hl, hn with
  | [], _, _, hn => simp at hn; omega
  | [d], h, hl, hn =>
    have h1 := (h d (by simp)).1
    simp at hn; omega
  | d :: d' :: D, h, hl, hn => exact ⟨d, d', D, rfl⟩
theorem blk_less {s : Nat} {D : List (List Pt)} {F : List Pt} (h : Blk s D) (hn : D.flatten.length + F.length < 2 * s) : D = [] ∨ ∃ X, D = [X] := by
  have hl := h.len
  match D, h, hl, hn with
  | [], _, _, hn => exact .inl rfl
  | [d], h, hl, hn => exact .inr ⟨d, rfl⟩
  | d :: d' :: D, h, hl, hn =>
    have h1 := (h d (by simp)).1
    have h2 := (h d' (by simp)).1
    simp at hn; omega

set_option maxRecDepth 100000 in
set_option maxHeartbeats 4000000 in
theorem stable_any (b o cap n : Nat) (l : List Pt) (W : World) (hn : l.length = n) (hsz : n ≤ 100000) (hP : Pts W b o l) :
    Calls Try.prog 72 #[.slice (some ⟨b, o, none⟩) n cap, .int .i64 n, .func (.func 56) #[] #[]] W fun r W' => r = .returned (.tuple #[]) ∧ Pts W' b o (isort l) ∧ Chg b o n W W' := by
  have HN := hid hn
  have HP := hid hP
  have FIN : Hid (∀ W' l', Pts W' b o l' → Chg b o n W W' → Srt l' → Stb l l' → Pts W' b o (isort l) ∧ Chg b o n W W') := fun W' l' h1 h2 h3 h4 => by
    rw [← isort_of h4 h3]; exact ⟨h1, h2⟩
  clear hn hP
  go_enter Try.func72, Try.ntmps72
  go_wp2_with fail
  go_loopw [7, 8] (fun v7 v8 wr => ∃ (a : Nat) (D : List (List Pt)) (E : List Pt), v7 = .int .i64 a ∧ v8 = .int .i64 (a + 20 : Nat) ∧ a ≤ n ∧ Pts wr b o (D.flatten ++ E) ∧ Hid (D.flatten.length = a) ∧ Hid (Blk 20 D) ∧ Hid (Stb l (D.flatten ++ E)) ∧ Chg b o n W wr)
    (fun v7 _ _ => n - (intOf v7).toNat)
  case atStart => exact ⟨0, [], l, rfl, rfl, Nat.zero_le _, by simpa using HP.out, rfl, Blk.nil _, (by show Stb _ _; simpa using Stb.refl l), Chg.refl HP.out n⟩
  case round =>
    obtain ⟨a, D, E, rfl, rfl, han, hPr, HL, HB, HS, hCr⟩ := hrel
    have HE : Hid (a + E.length = n) := by show _ = _; have := HS.out.len; have := HL.out; have := HN.out; simp at *; omega
    have HPr := hid hPr
    have HCr := hid hCr
    clear hPr hCr
    by_cases hlt : a + 20 ≤ n
    · have hz : (a : Int) + 20 ≤ (n : Int) := by omega
      obtain ⟨M, C, hEM, hM⟩ : ∃ M C, E = M ++ C ∧ M.length = 20 := ⟨E.take 20, E.drop 20, (List.take_append_drop _ _).symm, by rw [List.length_take]; have := HE.out; omega⟩
      have HEM := hid hEM
      have hc := ins_any b o cap n a 20 D.flatten M C wr HL.out hM (by have := HE.out; rw [hEM] at this; simp at this; omega) (by omega) (by have := HPr.out; rw [hEM] at this; simpa using this)
      have HC := hid hc
      have HM := hid hM
      clear hc hEM hM
      go_wp2_with fail
      refine (show Calls _ _ _ _ _ from HC.out).mono ?_
      rintro r w2 ⟨rfl, M', hPn, hCn, hSn, hTn⟩
      go_wp2
      go_roundw
      case rel =>
        refine ⟨a + 20, D ++ [M'], C, rfl, by go_num, hlt, ?_, ?_, HB.out.snoc (by rw [hTn.len]; exact HM.out) hSn, ?_, HCr.out.trans hCn⟩
        · simpa using hPn
        · show _ = _
          have h1 := HL.out; have h2 := hTn.len; have h3 := HM.out; simp at h1 ⊢; omega
        · show Stb _ _
          refine HS.out.trans ?_
          rw [HEM.out]
          have := ((Stb.refl D.flatten).append hTn).append (Stb.refl C)
          simpa using this
      case measure => simp [intOf] <;> omega
    · have hz : ¬ (a : Int) + 20 ≤ (n : Int) := by omega
      have hc := ins_any b o cap n a E.length D.flatten E [] wr HL.out rfl (by have := HE.out; simp; omega) (by omega) (by have := HPr.out; simpa using this)
      rw [HE.out] at hc
      have HC := hid hc
      clear hc
      go_wp2_with fail
      refine (show Calls _ _ _ _ _ from HC.out).mono ?_
      rintro r w2 ⟨rfl, F0, hPn, hCn, hSn, hTn⟩
      have HP2 : Hid (Pts w2 b o (D.flatten ++ F0)) := by show Pts _ _ _ _; simpa using hPn
      have HC2 := hid (HCr.out.trans hCn)
      have HS2 : Hid (Stb l (D.flatten ++ F0)) := HS.out.trans ((Stb.refl _).append hTn)
      have HF2 : Hid (F0.length < 20) := by show _ < _; rw [hTn.len]; have := HE.out; omega
      have HSF := hid hSn
      clear hPn hCn hSn hTn HS HPr HCr HC
      go_wp2_with fail
      go_loopw [6, 7, 8, 9] (fun v6 v7 v8 v9 wr => ∃ (s : Nat) (D : List (List Pt)) (F : List Pt), v6 = .int .i64 s ∧ 0 < s ∧ s ≤ 300000 ∧ Pts wr b o (D.flatten ++ F) ∧ Hid (Blk s D) ∧ Hid (F.length < s) ∧ Hid (Srt F) ∧ Hid (Stb l (D.flatten ++ F)) ∧ Chg b o n W wr)
        (fun v6 _ _ _ _ => n - (intOf v6).toNat)
      case atStart => exact ⟨20, D, F0, rfl, by omega, by omega, HP2.out, HB, HF2, HSF, HS2, HC2.out⟩
      case round =>
        obtain ⟨s, D, F, rfl, hs0, hs1, hPr, HB, HF, HSF, HS, hCr⟩ := hrel
        have HLn : Hid (D.flatten.length + F.length = n) := by show _ = _; have := HS.out.len; have := HN.out; simp at *; omega
        by_cases hsn : s < n
        · have hz2 : (s : Int) < (n : Int) := by omega
          obtain ⟨t, ht1, ht2, ht3⟩ : ∃ t : Nat, 2 * (s : Int) = (t : Int) ∧ (s : Int) * 2 = (t : Int) ∧ 2 * s = t := ⟨2 * s, by omega, by omega, rfl⟩
          have HT := hid ht3
          have ht4 : t ≤ 200000 := by omega
          have ht5 : s < t := by omega
          clear ht3
          have HPr := hid hPr
          have HCr := hid hCr
          clear hPr hCr
          go_wp2_with fail
          go_loopw [7, 8] (fun v7 v8 wr => ∃ (a : Nat) (E D' : List (List Pt)), v7 = .int .i64 a ∧ v8 = .int .i64 (a + t : Nat) ∧ a ≤ n ∧ Pts wr b o (E.flatten ++ (D'.flatten ++ F)) ∧ Hid (E.flatten.length = a) ∧ Hid (Blk t E) ∧ Hid (Blk s D') ∧ Hid (Stb l (E.flatten ++ (D'.flatten ++ F))) ∧ Chg b o n W wr)
            (fun v7 _ _ => n - (intOf v7).toNat)
          case atStart => exact ⟨0, [], D, rfl, by first | rfl | (congr 1; omega), Nat.zero_le _, by simpa using HPr.out, rfl, Blk.nil _, HB, (by show Stb _ _; simpa using HS.out), HCr.out⟩
          case round =>
            obtain ⟨a, E, D', rfl, rfl, han, hPr, HL, HBE, HBD, HS, hCr⟩ := hrel
            have HE : Hid (a + (D'.flatten.length + F.length) = n) := by show _ = _; have := HS.out.len; have := HL.out; have := HN.out; simp at *; omega
            have HPr := hid hPr
            have HCr := hid hCr
            clear hPr hCr
            by_cases hlt : a + t ≤ n
            · have hz : (a : Int) + (t : Int) ≤ (n : Int) := by omega
              obtain ⟨X, Y, D2, hD⟩ := blk_two HBD.out HF.out (by have := HT.out; have := HE.out; omega)
              have hX := HBD.out X (by rw [hD]; simp)
              have hY := HBD.out Y (by rw [hD]; simp)
              have HBD2 : Hid (Blk s D2) := fun d hd => HBD.out d (by rw [hD]; simp [hd])
              have hc := sym_any b o cap n (by omega) (n + 1) a (a + s) (a + t) E.flatten X Y (D2.flatten ++ F) wr HL.out (by omega) (by have := HT.out; omega) (by have h1 := HE.out; have := HT.out; rw [hD] at h1; simp at h1 ⊢; omega) (by omega) (by omega) hX.2 hY.2 (by omega) (by have := HPr.out; rw [hD] at this; simpa using this)
              have HC := hid hc
              have HD := hid hD
              have HXY : Hid (X.length = s ∧ Y.length = s) := ⟨hX.1, hY.1⟩
              clear hc hD hX hY
              go_wp2_with fail
              refine (show Calls _ _ _ _ _ from HC.out).mono ?_
              rintro r w3 ⟨rfl, Z, hPn, hCn, hSn, hTn⟩
              go_wp2
              go_roundw
              case rel =>
                refine ⟨a + t, E ++ [Z], D2, rfl, by go_num, hlt, ?_, ?_, HBE.out.snoc (by rw [hTn.len]; have := HXY.out; have := HT.out; simp; omega) hSn, HBD2, ?_, HCr.out.trans hCn⟩
                · simpa using hPn
                · show _ = _
                  have h1 := HL.out; have h2 := hTn.len; have h3 := HXY.out; have := HT.out; simp at h1 h2 ⊢; omega
                · show Stb _ _
                  refine HS.out.trans ?_
                  rw [HD.out]
                  have := ((Stb.refl E.flatten).append hTn).append (Stb.refl (D2.flatten ++ F))
                  simpa using this
              case measure => simp [intOf] <;> omega
            · have hz : ¬ (a : Int) + (t : Int) ≤ (n : Int) := by omega
              by_cases hm : a + s < n
              · have hzm : (a : Int) + (s : Int) < (n : Int) := by omega
                obtain ⟨X, hD⟩ : ∃ X, D' = [X] := by
                  rcases blk_less (F := F) HBD.out (by have := HE.out; have := HT.out; omega) with h | h
                  · have h1 := HE.out; have := HF.out; rw [h] at h1; simp at h1; omega
                  · exact h
                have hX := HBD.out X (by rw [hD]; simp)
                have hc := sym_any b o cap n (by omega) (n + 1) a (a + s) n E.flatten X F [] wr HL.out (by omega) (by have h1 := HE.out; rw [hD] at h1; simp at h1; omega) (by simp) (by omega) (by have h1 := HE.out; rw [hD] at h1; simp at h1; omega) hX.2 HSF.out (by omega) (by have := HPr.out; rw [hD] at this; simpa using this)
                have HC := hid hc
                have HD := hid hD
                have HXl := hid hX.1
                clear hc hD hX
                go_wp2_with fail
                refine (show Calls _ _ _ _ _ from HC.out).mono ?_
                rintro r w3 ⟨rfl, Z, hPn, hCn, hSn, hTn⟩
                go_wp2
                go_roundw
                case rel =>
                  refine ⟨t, E, Z, rfl, by omega, by omega, by simpa using hPn, HBE, ?_, hSn, ?_, HCr.out.trans hCn⟩
                  · show _ < _
                    rw [hTn.len]; have := HXl.out; have := HT.out; have := HF.out; simp; omega
                  · show Stb _ _
                    refine HS.out.trans ?_
                    rw [HD.out]
                    have := (Stb.refl E.flatten).append hTn
                    simpa using this
                case measure => simp [intOf] <;> omega
              · have hzm : ¬ (a : Int) + (s : Int) < (n : Int) := by omega
                have HG : Hid (∃ G, D'.flatten ++ F = G ∧ Srt G ∧ G.length < t) := by
                  refine ⟨_, rfl, ?_, ?_⟩
                  · exact blk_done HBD.out HSF.out (by have := HE.out; omega) hs0
                  · have := HE.out; have := HT.out; rw [List.length_append]; omega
                go_wp2
                go_roundw
                case rel =>
                  obtain ⟨G, hG1, hG2, hG3⟩ := HG.out
                  have h1 := HPr.out
                  have h2 := HS.out
                  rw [hG1] at h1 h2
                  exact ⟨t, E, G, rfl, by omega, by omega, h1, HBE, hG3, hG2, h2, HCr.out⟩
                case measure => simp [intOf] <;> omega
        · have hz2 : ¬ (s : Int) < (n : Int) := by omega
          have HR := hid (FIN.out wr _ hPr hCr (blk_done HB.out HSF.out (by have := HLn.out; omega) hs0) HS.out)
          go_wp2
          go_end0
          exact ⟨rfl, HR.out.1, HR.out.2⟩
end Go.Proofs.Ytcgfbejcehiolaa
