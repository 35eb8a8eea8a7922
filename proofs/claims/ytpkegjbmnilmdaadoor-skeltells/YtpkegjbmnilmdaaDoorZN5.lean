/- Texts of one layer, one behind the other: NSI NNA NOA. -/
import Derived.Test.YtpkegjbmnilmdaaDoorZN1
import Derived.Test.YtpkegjbmnilmdaaDoorZN4
import Derived.Test.YtpkegjbmnilmdaaDoorZD3
/- Sorting that keeps what is equal: blocks that are sorted, and merged. -/
namespace Go.Proofs.YtpkegjbmnilmdaaDoor.N
open Go.RowKit
set_option linter.unusedVariables false

/-- Sorted blocks of one size. -/
def Blk (s : Nat) (D : List (List Pt)) : Prop := ∀ d ∈ D, d.length = s ∧ Srt d
theorem Blk.len {s : Nat} : ∀ {D : List (List Pt)}, Blk s D → D.flatten.length = s * D.length
  | [], _ => by simp
  | d :: D, h => by
    have h1 := (h d (by simp)).1
    have h2 := Blk.len (D := D) (fun x hx => h x (by simp [hx]))
    simp only [List.flatten_cons, List.length_append, List.length_cons]
    rw [h1, h2, Nat.mul_add]; omega
theorem Blk.snoc {s : Nat} {D : List (List Pt)} {d : List Pt} (h : Blk s D) (h1 : d.length = s) (h2 : Srt d) : Blk s (D ++ [d]) := by
  intro x hx
  rcases List.mem_append.1 hx with hx | hx
  · exact h x hx
  · simp at hx; subst hx; exact ⟨h1, h2⟩
theorem Blk.nil (s : Nat) : Blk s [] := fun d hd => by cases hd
/-- One block is all. -/
theorem blk_done {s : Nat} {D : List (List Pt)} {F : List Pt} (h : Blk s D) (hF : Srt F) (hn : D.flatten.length + F.length ≤ s) (hs : 0 < s) : Srt (D.flatten ++ F) := by
  have hl := h.len
  match D, h, hl, hn with
  | [], _, _, _ => simpa using hF
  | [d], h, hl, hn =>
    have h1 := h d (by simp)
    have : F = [] := List.length_eq_zero_iff.1 (by simp at hn; omega)
    rw [this]; simpa using h1.2
  | d :: d' :: D, h, hl, hn =>
    have h1 := (h d (by simp)).1
    have h2 := (h d' (by simp)).1
    simp at hn; omega
theorem blk_two {s : Nat} {D : List (List Pt)} {F : List Pt} (h : Blk s D) (hF : F.length < s) (hn : 2 * s ≤ D.flatten.length + F.length) : ∃ X Y D', D = X :: Y :: D' := by
  have hl := h.len
  match D, h, hl, hn with
  | [], _, _, hn => simp at hn; omega
  | [d], h, hl, hn =>
    have h1 := (h d (by simp)).1
    simp at hn; omega
  | d :: d' :: D, h, hl, hn => exact ⟨d, d', D, rfl⟩
theorem blk_less {s : Nat} {D : List (List Pt)} {F : List Pt} (h : Blk s D) (hn : D.flatten.length + F.length < 2 * s) : D = [] ∨ ∃ X, D = [X] := by
  have hl := h.len
  match D, h, hl, hn with
  | [], _, _, hn => exact .inl rfl
  | [d], h, hl, hn => exact .inr ⟨d, rfl⟩
  | d :: d' :: D, h, hl, hn =>
    have h1 := (h d (by simp)).1
    have h2 := (h d' (by simp)).1
    simp at hn; omega

set_option maxRecDepth 100000 in
set_option maxHeartbeats 4000000 in
theorem stable_any (b o cap n : Nat) (l : List Pt) (W : World) (hn : l.length = n) (hsz : n ≤ 100000) (hP : Pts W b o l) :
    Calls Tryd.prog 87 #[.slice (some ⟨b, o, none⟩) n cap, .int .i64 n, .func (.func 79) #[] #[]] W fun r W' => r = .returned (.tuple #[]) ∧ Pts W' b o (isort l) ∧ Chg b o n W W' := by
  have HN := hid hn
  have HP := hid hP
  have FIN : Hid (∀ W' l', Pts W' b o l' → Chg b o n W W' → Srt l' → Stb l l' → Pts W' b o (isort l) ∧ Chg b o n W W') := fun W' l' h1 h2 h3 h4 => by
    rw [← isort_of h4 h3]; exact ⟨h1, h2⟩
  clear hn hP
  go_enter Tryd.func87, Tryd.ntmps87
  go_wp2_with fail
  go_loopw [7, 8] (fun v7 v8 wr => ∃ (a : Nat) (D : List (List Pt)) (E : List Pt), v7 = .int .i64 a ∧ v8 = .int .i64 (a + 20 : Nat) ∧ a ≤ n ∧ Pts wr b o (D.flatten ++ E) ∧ Hid (D.flatten.length = a) ∧ Hid (Blk 20 D) ∧ Hid (Stb l (D.flatten ++ E)) ∧ Chg b o n W wr)
    (fun v7 _ _ => n - (intOf v7).toNat)
  case atStart => exact ⟨0, [], l, rfl, rfl, Nat.zero_le _, by simpa using HP.out, rfl, Blk.nil _, (by show Stb _ _; simpa using Stb.refl l), Chg.refl HP.out n⟩
  case round =>
    obtain ⟨a, D, E, rfl, rfl, han, hPr, HL, HB, HS, hCr⟩ := hrel
    have HE : Hid (a + E.length = n) := by show _ = _; have := HS.out.len; have := HL.out; have := HN.out; simp at *; omega
    have HPr := hid hPr
    have HCr := hid hCr
    clear hPr hCr
    by_cases hlt : a + 20 ≤ n
    · have hz : (a : Int) + 20 ≤ (n : Int) := by omega
      obtain ⟨M, C, hEM, hM⟩ : ∃ M C, E = M ++ C ∧ M.length = 20 := ⟨E.take 20, E.drop 20, (List.take_append_drop _ _).symm, by rw [List.length_take]; have := HE.out; omega⟩
      have HEM := hid hEM
      have hc := ins_any b o cap n a 20 D.flatten M C wr HL.out hM (by have := HE.out; rw [hEM] at this; simp at this; omega) (by omega) (by have := HPr.out; rw [hEM] at this; simpa using this)
      have HC := hid hc
      have HM := hid hM
      clear hc hEM hM
      go_wp2_with fail
      refine (show Calls _ _ _ _ _ from HC.out).mono ?_
      rintro r w2 ⟨rfl, M', hPn, hCn, hSn, hTn⟩
      go_wp2
      go_roundw
      case rel =>
        refine ⟨a + 20, D ++ [M'], C, rfl, by go_num, hlt, ?_, ?_, HB.out.snoc (by rw [hTn.len]; exact HM.out) hSn, ?_, HCr.out.trans hCn⟩
        · simpa using hPn
        · show _ = _
          have h1 := HL.out; have h2 := hTn.len; have h3 := HM.out; simp at h1 ⊢; omega
        · show Stb _ _
          refine HS.out.trans ?_
          rw [HEM.out]
          have := ((Stb.refl D.flatten).append hTn).append (Stb.refl C)
          simpa using this
      case measure => simp [intOf] <;> omega
    · have hz : ¬ (a : Int) + 20 ≤ (n : Int) := by omega
      have hc := ins_any b o cap n a E.length D.flatten E [] wr HL.out rfl (by have := HE.out; simp; omega) (by omega) (by have := HPr.out; simpa using this)
      rw [HE.out] at hc
      have HC := hid hc
      clear hc
      go_wp2_with fail
      refine (show Calls _ _ _ _ _ from HC.out).mono ?_
      rintro r w2 ⟨rfl, F0, hPn, hCn, hSn, hTn⟩
      have HP2 : Hid (Pts w2 b o (D.flatten ++ F0)) := by show Pts _ _ _ _; simpa using hPn
      have HC2 := hid (HCr.out.trans hCn)
      have HS2 : Hid (Stb l (D.flatten ++ F0)) := HS.out.trans ((Stb.refl _).append hTn)
      have HF2 : Hid (F0.length < 20) := by show _ < _; rw [hTn.len]; have := HE.out; omega
      have HSF := hid hSn
      clear hPn hCn hSn hTn HS HPr HCr HC
      go_wp2_with fail
      go_loopw [6, 7, 8, 9] (fun v6 v7 v8 v9 wr => ∃ (s : Nat) (D : List (List Pt)) (F : List Pt), v6 = .int .i64 s ∧ 0 < s ∧ s ≤ 300000 ∧ Pts wr b o (D.flatten ++ F) ∧ Hid (Blk s D) ∧ Hid (F.length < s) ∧ Hid (Srt F) ∧ Hid (Stb l (D.flatten ++ F)) ∧ Chg b o n W wr)
        (fun v6 _ _ _ _ => n - (intOf v6).toNat)
      case atStart => exact ⟨20, D, F0, rfl, by omega, by omega, HP2.out, HB, HF2, HSF, HS2, HC2.out⟩
      case round =>
        obtain ⟨s, D, F, rfl, hs0, hs1, hPr, HB, HF, HSF, HS, hCr⟩ := hrel
        have HLn : Hid (D.flatten.length + F.length = n) := by show _ = _; have := HS.out.len; have := HN.out; simp at *; omega
        by_cases hsn : s < n
        · have hz2 : (s : Int) < (n : Int) := by omega
          obtain ⟨t, ht1, ht2, ht3⟩ : ∃ t : Nat, 2 * (s : Int) = (t : Int) ∧ (s : Int) * 2 = (t : Int) ∧ 2 * s = t := ⟨2 * s, by omega, by omega, rfl⟩
          have HT := hid ht3
          have ht4 : t ≤ 200000 := by omega
          have ht5 : s < t := by omega
          clear ht3
          have HPr := hid hPr
          have HCr := hid hCr
          clear hPr hCr
          go_wp2_with fail
          go_loopw [7, 8] (fun v7 v8 wr => ∃ (a : Nat) (E D' : List (List Pt)), v7 = .int .i64 a ∧ v8 = .int .i64 (a + t : Nat) ∧ a ≤ n ∧ Pts wr b o (E.flatten ++ (D'.flatten ++ F)) ∧ Hid (E.flatten.length = a) ∧ Hid (Blk t E) ∧ Hid (Blk s D') ∧ Hid (Stb l (E.flatten ++ (D'.flatten ++ F))) ∧ Chg b o n W wr)
            (fun v7 _ _ => n - (intOf v7).toNat)
          case atStart => exact ⟨0, [], D, rfl, by first | rfl | (congr 1; omega), Nat.zero_le _, by simpa using HPr.out, rfl, Blk.nil _, HB, (by show Stb _ _; simpa using HS.out), HCr.out⟩
          case round =>
            obtain ⟨a, E, D', rfl, rfl, han, hPr, HL, HBE, HBD, HS, hCr⟩ := hrel
            have HE : Hid (a + (D'.flatten.length + F.length) = n) := by show _ = _; have := HS.out.len; have := HL.out; have := HN.out; simp at *; omega
            have HPr := hid hPr
            have HCr := hid hCr
            clear hPr hCr
            by_cases hlt : a + t ≤ n
            · have hz : (a : Int) + (t : Int) ≤ (n : Int) := by omega
              obtain ⟨X, Y, D2, hD⟩ := blk_two HBD.out HF.out (by have := HT.out; have := HE.out; omega)
              have hX := HBD.out X (by rw [hD]; simp)
              have hY := HBD.out Y (by rw [hD]; simp)
              have HBD2 : Hid (Blk s D2) := fun d hd => HBD.out d (by rw [hD]; simp [hd])
              have hc := sym_any b o cap n (by omega) (n + 1) a (a + s) (a + t) E.flatten X Y (D2.flatten ++ F) wr HL.out (by omega) (by have := HT.out; omega) (by have h1 := HE.out; have := HT.out; rw [hD] at h1; simp at h1 ⊢; omega) (by omega) (by omega) hX.2 hY.2 (by omega) (by have := HPr.out; rw [hD] at this; simpa using this)
              have HC := hid hc
              have HD := hid hD
              have HXY : Hid (X.length = s ∧ Y.length = s) := ⟨hX.1, hY.1⟩
              clear hc hD hX hY
              go_wp2_with fail
              refine (show Calls _ _ _ _ _ from HC.out).mono ?_
              rintro r w3 ⟨rfl, Z, hPn, hCn, hSn, hTn⟩
              go_wp2
              go_roundw
              case rel =>
                refine ⟨a + t, E ++ [Z], D2, rfl, by go_num, hlt, ?_, ?_, HBE.out.snoc (by rw [hTn.len]; have := HXY.out; have := HT.out; simp; omega) hSn, HBD2, ?_, HCr.out.trans hCn⟩
                · simpa using hPn
                · show _ = _
                  have h1 := HL.out; have h2 := hTn.len; have h3 := HXY.out; have := HT.out; simp at h1 h2 ⊢; omega
                · show Stb _ _
                  refine HS.out.trans ?_
                  rw [HD.out]
                  have := ((Stb.refl E.flatten).append hTn).append (Stb.refl (D2.flatten ++ F))
                  simpa using this
              case measure => simp [intOf] <;> omega
            · have hz : ¬ (a : Int) + (t : Int) ≤ (n : Int) := by omega
              by_cases hm : a + s < n
              · have hzm : (a : Int) + (s : Int) < (n : Int) := by omega
                obtain ⟨X, hD⟩ : ∃ X, D' = [X] := by
                  rcases blk_less (F := F) HBD.out (by have := HE.out; have := HT.out; omega) with h | h
                  · have h1 := HE.out; have := HF.out; rw [h] at h1; simp at h1; omega
                  · exact h
                have hX := HBD.out X (by rw [hD]; simp)
                have hc := sym_any b o cap n (by omega) (n + 1) a (a + s) n E.flatten X F [] wr HL.out (by omega) (by have h1 := HE.out; rw [hD] at h1; simp at h1; omega) (by simp) (by omega) (by have h1 := HE.out; rw [hD] at h1; simp at h1; omega) hX.2 HSF.out (by omega) (by have := HPr.out; rw [hD] at this; simpa using this)
                have HC := hid hc
                have HD := hid hD
                have HXl := hid hX.1
                clear hc hD hX
                go_wp2_with fail
                refine (show Calls _ _ _ _ _ from HC.out).mono ?_
                rintro r w3 ⟨rfl, Z, hPn, hCn, hSn, hTn⟩
                go_wp2
                go_roundw
                case rel =>
                  refine ⟨t, E, Z, rfl, by omega, by omega, by simpa using hPn, HBE, ?_, hSn, ?_, HCr.out.trans hCn⟩
                  · show _ < _
                    rw [hTn.len]; have := HXl.out; have := HT.out; have := HF.out; simp; omega
                  · show Stb _ _
                    refine HS.out.trans ?_
                    rw [HD.out]
                    have := (Stb.refl E.flatten).append hTn
                    simpa using this
                case measure => simp [intOf] <;> omega
              · have hzm : ¬ (a : Int) + (s : Int) < (n : Int) := by omega
                have HG : Hid (∃ G, D'.flatten ++ F = G ∧ Srt G ∧ G.length < t) := by
                  refine ⟨_, rfl, ?_, ?_⟩
                  · exact blk_done HBD.out HSF.out (by have := HE.out; omega) hs0
                  · have := HE.out; have := HT.out; rw [List.length_append]; omega
                go_wp2
                go_roundw
                case rel =>
                  obtain ⟨G, hG1, hG2, hG3⟩ := HG.out
                  have h1 := HPr.out
                  have h2 := HS.out
                  rw [hG1] at h1 h2
                  exact ⟨t, E, G, rfl, by omega, by omega, h1, HBE, hG3, hG2, h2, HCr.out⟩
                case measure => simp [intOf] <;> omega
        · have hz2 : ¬ (s : Int) < (n : Int) := by omega
          have HR := hid (FIN.out wr _ hPr hCr (blk_done HB.out HSF.out (by have := HLn.out; omega) hs0) HS.out)
          go_wp2
          go_end0
          exact ⟨rfl, HR.out.1, HR.out.2⟩
end Go.Proofs.YtpkegjbmnilmdaaDoor.N
/- Plain: classes, and what a code point is taken apart into, till nothing is left. -/
namespace Go.Proofs.YtpkegjbmnilmdaaDoor.N
open Go.RowKit
set_option linter.unusedVariables false

/-- The class of a code point. -/
def cl (r : Int) : Int := (D.fnd r).2.2.2.2.2.1
def pt (r : Int) : Pt := (r, cl r)
def tall : Nat → Int → Bool
  | 0, r => (D.dcp r).isEmpty
  | k + 1, r => (D.dcp r).all (tall k)
def fdn : Nat → Int → List Int
  | 0, r => [r]
  | k + 1, r => if (D.dcp r).isEmpty then [r] else (D.dcp r).flatMap (fdn k)
/-- Taken apart, till nothing is left to take apart. -/
def fd (r : Int) : List Int := fdn 5 r
/-- All that can be taken apart. -/
def keys : List Int := [8486, 8490, 8491] ++ D.prs.map (·.1)
theorem keys_of {r : Int} (h : (D.dcp r).isEmpty = false) : r ∈ keys := by
  unfold D.dcp at h
  by_cases hs : D.sgl r ≠ 0
  · unfold keys
    rw [List.mem_append]
    refine .inl ?_
    unfold D.sgl at hs
    by_cases h1 : r = 8486
    · simp [h1]
    by_cases h2 : r = 8490
    · simp [h2]
    by_cases h3 : r = 8491
    · simp [h3]
    have e1 : (r == 8486) = false := by simpa using h1
    have e2 : (r == 8490) = false := by simpa using h2
    have e3 : (r == 8491) = false := by simpa using h3
    exact absurd (by simp [List.lookup, e1, e2, e3]) hs
  · rw [if_neg hs] at h
    cases he : D.prs.find? (fun x => x.1 == r) with
    | none => rw [he] at h; simp at h
    | some p =>
      unfold keys
      rw [List.mem_append]
      exact .inr (List.mem_map.2 ⟨p, List.mem_of_find?_eq_some he, by simpa using List.find?_some he⟩)
theorem keys_ok : (keys.all fun r => tall 4 r && decide (fdn 5 r = (D.dcp r).flatMap (fdn 5)) && decide (cl r = 0) && (fd r).all (fun c => (D.dcp c).isEmpty) && decide (cl ((fd r).headD 0) = 0) && decide ((fd r).length ≤ 3) && !(fd r).isEmpty) = true := by kernel_rfl
theorem keys_at {r : Int} (h : r ∈ keys) : tall 4 r = true ∧ fd r = (D.dcp r).flatMap fd ∧ cl r = 0 ∧ (∀ c ∈ fd r, D.dcp c = []) ∧ cl ((fd r).headD 0) = 0 ∧ (fd r).length ≤ 3 ∧ fd r ≠ [] := by
  have := List.all_eq_true.1 keys_ok r h
  simp only [Bool.and_eq_true, decide_eq_true_eq, List.all_eq_true, Bool.not_eq_true', List.isEmpty_iff, List.isEmpty_eq_false_iff] at this
  obtain ⟨⟨⟨⟨⟨⟨h1, h2⟩, h3⟩, h4⟩, h5⟩, h6⟩, h7⟩ := this
  exact ⟨h1, h2, h3, h4, h5, h6, h7⟩
theorem tall4 (r : Int) : tall 4 r = true := by
  cases h : (D.dcp r).isEmpty with
  | true => have : D.dcp r = [] := by simpa using h
            show (D.dcp r).all (tall 3) = true
            rw [this]; rfl
  | false => exact (keys_at (keys_of h)).1
theorem fd_nil {r : Int} (h : D.dcp r = []) : fd r = [r] := by
  show (if (D.dcp r).isEmpty then [r] else _) = [r]
  rw [h]; rfl
theorem fd_cons {r : Int} (h : D.dcp r ≠ []) : fd r = (D.dcp r).flatMap fd := (keys_at (keys_of (by simpa using h))).2.1
theorem fd_len (r : Int) : 1 ≤ (fd r).length ∧ (fd r).length ≤ 3 := by
  by_cases h : D.dcp r = []
  · rw [fd_nil h]; simp
  · have := keys_at (keys_of (by simpa using h))
    exact ⟨by have := this.2.2.2.2.2.2; cases e : fd r with
      | nil => exact absurd e this
      | cons a l => simp, this.2.2.2.2.2.1⟩
theorem fd_done {r c : Int} (h : c ∈ fd r) : D.dcp c = [] := by
  by_cases h1 : D.dcp r = []
  · rw [fd_nil h1] at h; simp at h; rw [h]; exact h1
  · exact (keys_at (keys_of (by simpa using h1))).2.2.2.1 c h
theorem fd_head {r : Int} (h : cl r = 0) : cl ((fd r).headD 0) = 0 := by
  by_cases h1 : D.dcp r = []
  · rw [fd_nil h1]; exact h
  · exact (keys_at (keys_of (by simpa using h1))).2.2.2.2.1
theorem fds_len (l : List Int) : (l.flatMap fd).length ≤ l.length * 3 := by
  induction l with
  | nil => simp
  | cons a l ih => rw [List.flatMap_cons, List.length_append, List.length_cons]; have := (fd_len a).2; omega
end Go.Proofs.YtpkegjbmnilmdaaDoor.N
/- What is gathered, each row of marks in order: plain, and in memory. -/
namespace Go.Proofs.YtpkegjbmnilmdaaDoor.N
open Go.RowKit
set_option linter.unusedVariables false

theorem snoc_ind {α : Type} {P : List α → Prop} (h0 : P []) (h1 : ∀ l p, P l → P (l ++ [p])) (l : List α) : P l := by
  have : ∀ r : List α, P r.reverse := by
    intro r
    induction r with
    | nil => exact h0
    | cons a r ih => rw [List.reverse_cons]; exact h1 _ _ ih
  have h := this l.reverse
  rwa [List.reverse_reverse] at h
theorem tlv (c : Array Value) (i : Nat) : c.toList[i]? = c[i]? := by simp
/-- What is in order, and the marks behind it that are not yet. -/
def stp (s : List Pt × List Pt) (p : Pt) : List Pt × List Pt := if p.2 = 0 then (s.1 ++ isort s.2 ++ [p], []) else (s.1, s.2 ++ [p])
def st (l : List Pt) : List Pt × List Pt := l.foldl stp ([], [])
/-- A row of points in order. -/
def ord (l : List Pt) : List Pt := (st l).1 ++ isort (st l).2
theorem st_snoc (l : List Pt) (p : Pt) : st (l ++ [p]) = stp (st l) p := by simp [st, List.foldl_append]
theorem st_len (l : List Pt) : (st l).1.length + (st l).2.length = l.length := by
  induction l using snoc_ind with
  | h0 => rfl
  | h1 l p ih =>
    rw [st_snoc]
    unfold stp
    split
    · have := (isort_stb (st l).2).len
      simp only [List.length_append, List.length_cons, List.length_nil]; omega
    · simp only [List.length_append, List.length_cons, List.length_nil]; omega

def c2 (p : Pt) : List Value := [.int .i32 p.1, .int .u8 p.2]
def flat2 (l : List Pt) : List Value := l.flatMap c2
theorem flat2_len (l : List Pt) : (flat2 l).length = l.length * 2 := by
  induction l with
  | nil => rfl
  | cons s l ih => simp only [flat2, List.flatMap_cons, List.length_append, List.length_cons] at ih ⊢; rw [ih]; simp [c2]; omega
theorem flat2_append (a b : List Pt) : flat2 (a ++ b) = flat2 a ++ flat2 b := by simp [flat2]
theorem flat2_get (l : List Pt) : ∀ j, j < l.length → (flat2 l)[j * 2]? = some (.int .i32 (l[j]?.getD z2).1) ∧ (flat2 l)[j * 2 + 1]? = some (.int .u8 (l[j]?.getD z2).2) := by
  induction l with
  | nil => intro j hj; simp at hj
  | cons s l ih =>
    intro j hj
    rcases j with _ | j
    · simp [flat2, c2]
    · have h := ih j (by simpa using hj)
      have e : flat2 (s :: l) = c2 s ++ flat2 l := rfl
      have hl : (c2 s).length = 2 := rfl
      rw [e, List.getElem?_append_right (by omega), List.getElem?_append_right (by omega), hl, show (j + 1) * 2 - 2 = j * 2 by omega, show (j + 1) * 2 + 1 - 2 = j * 2 + 1 by omega]
      simpa using h
/-- The points that a row of the call's own holds from a place on. -/
theorem ownsRow_pts {W : World} {base g n cap : Nat} {O S : List Pt} (h : W.ownsRow base 87 2 (.slice (some ⟨g, 0, none⟩) n cap) n (flat2 (O ++ S))) : Pts W g (O.length * 2) S := by
  obtain ⟨hl, h⟩ := h
  rcases h with ⟨h, _⟩ | ⟨g', cap', cur, e, _, hg, _, _, _, ht⟩
  · cases h
  · cases e
    refine ⟨cur, 87, hg, fun j hj => ?_⟩
    have hn : (O ++ S).length * 2 = n * 2 := by rw [← hl, flat2_len]
    rw [List.length_append] at hn
    have hf := flat2_get (O ++ S) (O.length + j) (by rw [List.length_append]; omega)
    rw [← ht, List.getElem?_take_of_lt (by omega), List.getElem?_take_of_lt (by omega), tlv, tlv] at hf
    rw [show O.length * 2 + j * 2 = (O.length + j) * 2 by omega]
    rw [List.getElem?_append_right (by omega), show O.length + j - O.length = j by omega] at hf
    exact hf
theorem flat2_ext {n : Nat} {X : List Value} {l : List Pt} (hn : l.length = n) (hX : X.length = n * 2) (h : ∀ j, j < n → X[j * 2]? = some (.int .i32 (l[j]?.getD z2).1) ∧ X[j * 2 + 1]? = some (.int .u8 (l[j]?.getD z2).2)) : X = flat2 l := by
  apply List.ext_getElem?
  intro i
  by_cases hi : i < n * 2
  · have hj := h (i / 2) (by omega)
    have hf := flat2_get l (i / 2) (by omega)
    rcases Nat.mod_two_eq_zero_or_one i with hm | hm
    · rw [show i = i / 2 * 2 by omega, hj.1, hf.1]
    · rw [show i = i / 2 * 2 + 1 by omega, hj.2, hf.2]
  · rw [List.getElem?_eq_none (by omega), List.getElem?_eq_none (by rw [flat2_len]; omega)]
theorem ownsRow_chg {W W' : World} {base g n cap : Nat} {O S S' : List Pt} (h : W.ownsRow base 87 2 (.slice (some ⟨g, 0, none⟩) n cap) n (flat2 (O ++ S))) (hc : Chg g (O.length * 2) S.length W W') (hp : Pts W' g (O.length * 2) S') (hl : S'.length = S.length) :
    W'.ownsRow base 87 2 (.slice (some ⟨g, 0, none⟩) n cap) n (flat2 (O ++ S')) := by
  obtain ⟨hl0, h⟩ := h
  rcases h with ⟨h, _⟩ | ⟨g', cap', cur, e, hb, hg, hn1, hn2, hn3, ht⟩
  · cases h
  · cases e
    obtain ⟨c1, c2', t, e1, e2, hs, hf⟩ := hc.blk
    rw [hg] at e1
    cases e1
    obtain ⟨c3, t3, e3, hp⟩ := hp
    rw [e2] at e3
    cases e3
    have hn : (O ++ S).length * 2 = n * 2 := by rw [← hl0, flat2_len]
    rw [List.length_append] at hn
    refine ⟨by rw [flat2_len, List.length_append, hl]; exact hn, .inr ⟨g, cap, c2', rfl, hb, e2, hn1, hn2, by rw [hs, hn3], ?_⟩⟩
    refine flat2_ext (n := n) (by rw [List.length_append, hl]; omega) (by rw [List.length_take, Array.length_toList, hs, hn3]; have := Nat.mul_le_mul_right 2 hn1; omega) (fun j hj => ?_)
    rw [List.getElem?_take_of_lt (by omega), List.getElem?_take_of_lt (by omega), tlv, tlv]
    by_cases hjo : j < O.length
    · rw [hf _ (.inl (by omega)), hf _ (.inl (by omega))]
      have hff := flat2_get (O ++ S) j (by rw [List.length_append]; omega)
      rw [← ht, List.getElem?_take_of_lt (by omega), List.getElem?_take_of_lt (by omega), tlv, tlv, List.getElem?_append_left hjo] at hff
      rw [List.getElem?_append_left hjo]
      exact hff
    · have := hp (j - O.length) (by omega)
      rw [show O.length * 2 + (j - O.length) * 2 = j * 2 by omega] at this
      rw [List.getElem?_append_right (by omega)]
      exact this

set_option maxRecDepth 100000 in
set_option maxHeartbeats 1000000 in
theorem marks_any (b o cap n : Nat) (l : List Pt) (W : World) (hn : l.length = n) (hsz : n ≤ 100000) (hP : Pts W b o l) :
    Calls Tryd.prog 66 #[.slice (some ⟨b, o, none⟩) n cap] W fun r W' => r = .returned (.tuple #[]) ∧ Pts W' b o (isort l) ∧ Chg b o n W W' := by
  have hst : Calls Tryd.prog 78 #[.slice (some ⟨b, o, none⟩) n cap, .func (.func 79) #[] #[]] W fun r W' => r = .returned (.tuple #[]) ∧ Pts W' b o (isort l) ∧ Chg b o n W W' := by
    have hs := hid (stable_any b o cap n l W hn hsz hP)
    clear hP hn
    go_enter Tryd.func78, Tryd.ntmps78
    go_wp2_with fail
    refine (show Calls _ _ _ _ _ from hs.out).mono ?_
    rintro r W' ⟨rfl, h1, h2⟩
    go_wp2
    go_end0
    exact ⟨rfl, h1, h2⟩
  have hs := hid hst
  clear hP hn hst
  go_enter Tryd.func66, Tryd.ntmps66
  go_wp2_with fail
  refine (show Calls _ _ _ _ _ from hs.out).mono ?_
  rintro r W' ⟨rfl, h1, h2⟩
  go_wp2
  go_end0
  exact ⟨rfl, h1, h2⟩

set_option maxRecDepth 100000 in
set_option maxHeartbeats 1000000 in
theorem ins_none (a : Option Addr) (cap : Nat) (W : World) : Calls Tryd.prog 92 #[.slice a 0 cap, .int .i64 0, .int .i64 0, .func (.func 79) #[] #[]] W fun r W' => r = .returned (.tuple #[]) ∧ W' = W := by
  go_enter Tryd.func92, Tryd.ntmps92
  go_wp2_with fail
  refine wp_loop_rounds 1 ?_
  rw [rounds_succ]
  go_wp2
  go_end0
  exact ⟨rfl, rfl⟩
set_option maxRecDepth 100000 in
set_option maxHeartbeats 1000000 in
theorem marks_none (a : Option Addr) (cap : Nat) (W : World) : Calls Tryd.prog 66 #[.slice a 0 cap] W fun r W' => r = .returned (.tuple #[]) ∧ W' = W := by
  have h1 : Calls Tryd.prog 87 #[.slice a 0 cap, .int .i64 0, .func (.func 79) #[] #[]] W fun r W' => r = .returned (.tuple #[]) ∧ W' = W := by
    go_enter Tryd.func87, Tryd.ntmps87
    go_wp2_with fail
    refine wp_loop_rounds 1 ?_
    rw [rounds_succ]
    go_wp2_with fail
    refine (ins_none a cap _).mono ?_
    rintro r W' ⟨rfl, rfl⟩
    go_wp2_with fail
    refine wp_loop_rounds 1 ?_
    rw [rounds_succ]
    go_wp2
    go_end0
    exact ⟨rfl, rfl⟩
  have h2 : Calls Tryd.prog 78 #[.slice a 0 cap, .func (.func 79) #[] #[]] W fun r W' => r = .returned (.tuple #[]) ∧ W' = W := by
    have hs := hid h1
    clear h1
    go_enter Tryd.func78, Tryd.ntmps78
    go_wp2_with fail
    refine (show Calls _ _ _ _ _ from hs.out).mono ?_
    rintro r W' ⟨rfl, rfl⟩
    go_wp2
    go_end0
    exact ⟨rfl, rfl⟩
  have hs := hid h2
  clear h1 h2
  go_enter Tryd.func66, Tryd.ntmps66
  go_wp2_with fail
  refine (show Calls _ _ _ _ _ from hs.out).mono ?_
  rintro r W' ⟨rfl, rfl⟩
  go_wp2
  go_end0
  exact ⟨rfl, rfl⟩
end Go.Proofs.YtpkegjbmnilmdaaDoor.N
