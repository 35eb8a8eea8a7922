/- six.Parse. (Stage 11.) -/
import Derived.Test.YtpkmpebhlolhaaaDoorWI
namespace Go.Proofs.YtpkmpebhlolhaaaDoor.X
open Go.RowKit
open Go.Proofs.YtpkmpebhlolhaaaDoor.F (hx hx_bd vl vl_snoc bn bn_length bn_append bn_inj bn_get byte_bd hid bn_extract isEmpty_false isEmpty_true str_eq same_eq)
set_option linter.unusedVariables false

/-- What strings.Cut answers at two colons. -/
def CutR (U : ByteArray) (e : Ending) : Prop := ∃ (f b : ByteArray) (sh : Bool), e = .returned (.tuple #[.string f, .string b, .bool sh]) ∧ f.size ≤ U.size ∧ b.size ≤ U.size ∧ ((sh = false ∧ pp (bn U) = full (rwd (bn f)) ∧ rwd (bn b) = some []) ∨ (sh = true ∧ pp (bn U) = both (rwd (bn f)) (rwd (bn b))))
theorem below_drewN {B : Nat} {a w : World} (h : Below B a w) (n : Nat) : Below B a (w.drewN n) := ⟨h.os, h.tape, h.output, h.size, h.block⟩
theorem bn_arr (l : List UInt8) : bn ⟨l.toArray⟩ = nn l := by unfold bn nn; simp
theorem cut_any (U : ByteArray) (hU : U.size ≤ 1000000000) (w : World) (hM : Mx w) : Calls Tryd.prog 15 #[.string U, .string ⟨#[58, 58]⟩] w fun e W' => CutR U e ∧ Below w.heap.size w W' := by
  obtain ⟨m, hm⟩ := hM
  have hf : Tryd.laysCutX_ren.f 145 = 15 := by kernel_rfl
  have hg : Tryd.laysCutX_ren.g 1 = 0 := by kernel_rfl
  have h := Any.strings_Cut Tryd.laysCutX U ⟨#[58, 58]⟩ m w (by omega) (by rw [hg]; exact hm)
  rw [hf] at h
  refine h.mono ?_
  rintro e W' ⟨rfl, n, rfl⟩
  refine ⟨⟨_, _, _, rfl, ?_, ?_, ?_⟩, below_drewN (Below.refl _ _) n⟩
  · have e0 : (⟨#[58, 58]⟩ : ByteArray).data.toList = [58, 58] := rfl
    rw [e0, ← bn_length, bn_arr, ← bn_length U]
    rcases cut_gap U.data.toList with ⟨_, h2⟩ | ⟨_, h2, _⟩
    · rw [h2]; exact Nat.le_refl _
    · rw [h2, List.length_take]; exact Nat.min_le_right _ _
  · have e0 : (⟨#[58, 58]⟩ : ByteArray).data.toList = [58, 58] := rfl
    rw [e0, ← bn_length, bn_arr, ← bn_length U]
    rcases cut_gap U.data.toList with ⟨_, h2⟩ | ⟨_, _, h2, _⟩
    · rw [h2]; exact Nat.zero_le _
    · rw [h2, List.length_drop]; exact Nat.sub_le _ _
  · have e0 : (⟨#[58, 58]⟩ : ByteArray).data.toList = [58, 58] := rfl
    rw [e0]
    have hb1 := bn_arr (Lib.cut U.data.toList [58, 58]).1
    have hb2 := bn_arr (Lib.cut U.data.toList [58, 58]).2.1
    have hU0 : bn U = nn U.data.toList := rfl
    rw [hb1, hb2, hU0]
    rcases cut_gap U.data.toList with ⟨h1, h2⟩ | ⟨h1, h2, h3, h4⟩
    · left
      rw [h2]
      refine ⟨rfl, ?_, rfl⟩
      unfold pp
      rw [if_pos h1]
    · right
      rw [h2, h3, h4]
      refine ⟨rfl, ?_⟩
      unfold pp
      rw [if_neg h1]
/-- An array that is put into a new block. -/
theorem park (W : World) (X : List Nat) : ((W.alloc (.cells #[.int .u16 0, .int .u16 0, .int .u16 0, .int .u16 0, .int .u16 0, .int .u16 0, .int .u16 0, .int .u16 0] 23)).setRow W.heap.size (u16s X).toArray).heap[W.heap.size]? = some (.cells (u16s X).toArray 23 (0, 0)) ∧ Below W.heap.size W ((W.alloc (.cells #[.int .u16 0, .int .u16 0, .int .u16 0, .int .u16 0, .int .u16 0, .int .u16 0, .int .u16 0, .int .u16 0] 23)).setRow W.heap.size (u16s X).toArray) :=
  ⟨set_row (box_in W _ _), below_row ((Below.refl _ W).alloc (Nat.le_refl _) _) (Nat.le_refl _) _⟩
theorem box0 (W : World) : (W.alloc (.cells #[.int .u16 0, .int .u16 0, .int .u16 0, .int .u16 0, .int .u16 0, .int .u16 0, .int .u16 0, .int .u16 0] 23)).heap[W.heap.size]? = some (.cells (u16s z8).toArray 23 (0, 0)) := box_in W _ _
theorem gp_prs {l : List Int} {s : ByteArray} {e : Ending} (h : UndR l s e) (hl : l = bn s) : (prs l = none ∧ e = .returned (.tuple #[.string ⟨#[]⟩, .bool false])) ∨ (∃ t : ByteArray, e = .returned (.tuple #[.string t, .bool true]) ∧ pp (bn t) = prs l ∧ t.size ≤ s.size + 10) := by
  obtain ⟨X, p, e0, h58, hX, h⟩ := h
  rcases h with ⟨hd, rfl⟩ | ⟨hd, hn, rfl⟩ | ⟨hd, a, b, t, ha, hb, hdt, ht, hts, rfl⟩
  · right
    exact ⟨s, rfl, by rw [← hl, e0]; exact pp_plain hX h58 hd, by omega⟩
  · left
    exact ⟨by rw [e0]; exact prs_wrong hX h58 hd hn, rfl⟩
  · right
    exact ⟨t, rfl, by rw [ht, e0]; exact pp_dots hX h58 hd hdt ha hb, hts⟩
/-- What the program's tables hold. -/
def GX (w : World) : Prop := Tab w ∧ Er w ∧ Mx w
theorem GX.below {w w' : World} (h : GX w) (hb : Below w.heap.size w w') : GX w' := ⟨h.1.below hb (Nat.le_refl _), h.2.1.below hb, h.2.2.below hb⟩
/-- What six.Parse answers. -/
def PrsR (o : Option (List Nat)) (e : Ending) : Prop := e = .returned (.tuple #[.agg (u16s (o.getD z8)).toArray, .int .i64 (err o)])
theorem PrsR.no : PrsR none (.returned (.tuple #[.agg (u16s z8).toArray, .int .i64 8])) := rfl
theorem PrsR.yes (X : List Nat) : PrsR (some X) (.returned (.tuple #[.agg (u16s X).toArray, .int .i64 0])) := rfl
set_option maxRecDepth 100000 in
set_option maxHeartbeats 8000000 in
theorem parse_any (s : ByteArray) (hs : s.size ≤ 100000) (w : World) (hG : GX w) : Calls Tryd.prog 8 #[.string s] w fun e W' => PrsR (prs (bn s)) e ∧ Below w.heap.size w W' := by
  have HB0 : Hid (Below w.heap.size w (w.alloc (.cells #[.int .u16 0, .int .u16 0, .int .u16 0, .int .u16 0, .int .u16 0, .int .u16 0, .int .u16 0, .int .u16 0] 23))) := (Below.refl _ w).alloc (Nat.le_refl _) _
  have HA0 := hid (box0 w)
  have HZ0 : Hid ((w.alloc (.cells #[.int .u16 0, .int .u16 0, .int .u16 0, .int .u16 0, .int .u16 0, .int .u16 0, .int .u16 0, .int .u16 0] 23)).heap.size = w.heap.size + 1) := by show _ = _; simp
  have HG0 := hid (hG.below HB0.out)
  have HUN := hid (fun W (h : GX W) => undotted_any s hs W h.2.1 h.2.2 h.1)
  have HGP := hid (fun e (h : UndR (bn s) s e) => gp_prs h rfl)
  have HXL : Hid (z8.length = 8) := rfl
  obtain ⟨o, ho⟩ : ∃ o, prs (bn s) = o := ⟨_, rfl⟩
  rw [ho] at HGP ⊢
  clear ho hG
  go_enter Tryd.func8, Tryd.ntmps8
  go_wp2_with fail
  obtain ⟨w1, hw1⟩ : ∃ w1, w.alloc (.cells #[.int .u16 0, .int .u16 0, .int .u16 0, .int .u16 0, .int .u16 0, .int .u16 0, .int .u16 0, .int .u16 0] 23) = w1 := ⟨_, rfl⟩
  rw [hw1] at HB0 HA0 HZ0 HG0 ⊢
  clear hw1
  refine (HUN.out w1 HG0.out).mono ?_
  rintro e w2 ⟨hun, B2⟩
  have HB2 := hid (HB0.out.trans (B2.mono HB0.out.size))
  have HA2 : Hid (w2.heap[w.heap.size]? = some (.cells (u16s z8).toArray 23 (0, 0))) := (B2.block _ (by rw [HZ0.out]; omega)).trans HA0.out
  have HG2 := hid (HG0.out.below B2)
  have hun2 := HGP.out e hun
  clear B2 hun HGP HUN HA0 HB0 HG0 HZ0
  rcases hun2 with ⟨hn, rfl⟩ | ⟨U, rfl, hpp, hUs⟩
  · have HR : Hid (PrsR o (.returned (.tuple #[.agg (u16s z8).toArray, .int .i64 8]))) := by rw [hn]; exact PrsR.no
    clear hn
    go_wp2_with ((refine wpList_store_row rfl 23 (.tmp 2) (.tmp 21) rfl w.heap.size (u16s z8).toArray rfl rfl 23 (u16s z8).toArray HA2.out (info8X HXL.out) ((size8 rfl).trans (size8 HXL.out).symm) (one16 z8) ?_))
    exact bodyPost_ret (results_row_tmp Tryd.results8 _ _ w.heap.size 23 (u16s z8).toArray (0, 0) _ _ rfl (set_row HA2.out) Tryd.underlying23 (info8X HXL.out)) rfl ⟨HR.out, below_row HB2.out (Nat.le_refl _) _⟩
  · have HPP := hid hpp
    have HCU := hid (cut_any U (by omega) w2 HG2.out.2.2)
    have hzA : w.heap.size < w2.heap.size := (Array.getElem?_eq_some_iff.1 HA2.out).1
    clear hpp
    go_wp2_with fail
    refine HCU.out.mono ?_
    rintro e w3 ⟨⟨f, b, sh, rfl, hfs, hbs, hcut⟩, B3⟩
    have HB3 := hid (HB2.out.trans (B3.mono HB2.out.size))
    have HA3 : Hid (w3.heap[w.heap.size]? = some (.cells (u16s z8).toArray 23 (0, 0))) := (B3.block _ hzA).trans HA2.out
    have HG3 := hid (HG2.out.below B3)
    have hzA3 : w.heap.size < w3.heap.size := Nat.lt_of_lt_of_le hzA B3.size
    have HCT := hid hcut
    have HRF := hid (row_any f (by omega) w3 HG3.out.2.1 HG3.out.2.2)
    clear B3 HB2 HA2 HG2 HCU hcut hzA
    go_wp2_with fail
    refine HRF.out.mono ?_
    rintro e w4 ⟨hrf, B4⟩
    have HB4 := hid (HB3.out.trans (B4.mono HB3.out.size))
    have HA4 : Hid (w4.heap[w.heap.size]? = some (.cells (u16s z8).toArray 23 (0, 0))) := (B4.block _ hzA3).trans HA3.out
    have HG4 := hid (HG3.out.below B4)
    have hzA4 : w.heap.size < w4.heap.size := Nat.lt_of_lt_of_le hzA3 B4.size
    clear B4 HB3 HA3 HG3 HRF hzA3
    obtain ⟨X, m, okF, hX8, rfl, hmb, HXF⟩ : ∃ (X : List Nat) (m : Nat) (k : Bool), X.length = 8 ∧ e = .returned (.tuple #[.agg (u16s X).toArray, .int .i64 (m : Int), .bool k]) ∧ m ≤ 8 ∧ Hid ((k = true ∧ ∃ F, rwd (bn f) = some F ∧ F.length = m ∧ X = F ++ z (8 - F.length)) ∨ (k = false ∧ rwd (bn f) = none)) := by
      rcases hrf with ⟨v, h1, h2, h3⟩ | ⟨h1, X, h2, h3⟩
      · exact ⟨_, v.length, true, by unfold z; simp; omega, h3, h2, .inl ⟨rfl, v, h1, rfl, rfl⟩⟩
      · exact ⟨X, 0, false, h2, h3, by omega, .inr ⟨rfl, h1⟩⟩
    have HX8 := hid hX8
    have HBX := hid (box0 w4)
    obtain ⟨hpk1, hpk2⟩ := park w4 X
    have HPK1 := hid hpk1
    have HPK2 := hid hpk2
    clear hrf hX8 hpk1 hpk2
    go_wp2_with ((refine wpList_store_row rfl 23 (.tmp 8) (.tmp 31) rfl w4.heap.size (u16s X).toArray rfl rfl 23 (u16s z8).toArray HBX.out (info8X HX8.out) ((size8 rfl).trans (size8 HX8.out).symm) (one16 X) ?_))
    obtain ⟨w5, hw5⟩ : ∃ w5, (w4.alloc (.cells #[.int .u16 0, .int .u16 0, .int .u16 0, .int .u16 0, .int .u16 0, .int .u16 0, .int .u16 0, .int .u16 0] 23)).setRow w4.heap.size (u16s X).toArray = w5 := ⟨_, rfl⟩
    rw [hw5] at HPK1 HPK2 ⊢
    obtain ⟨g1, hg1⟩ : ∃ g1, w4.heap.size = g1 := ⟨_, rfl⟩
    have HB5 := hid (HB4.out.trans (HPK2.out.mono HB4.out.size))
    have HA5 : Hid (w5.heap[w.heap.size]? = some (.cells (u16s z8).toArray 23 (0, 0))) := (HPK2.out.block _ hzA4).trans HA4.out
    have HG5 := hid (HG4.out.below HPK2.out)
    rw [hg1] at HPK1 hzA4 ⊢
    have hg5 : g1 < w5.heap.size := (Array.getElem?_eq_some_iff.1 HPK1.out).1
    have HRB := hid (row_any b (by omega) w5 HG5.out.2.1 HG5.out.2.2)
    clear hw5 hg1 HPK2 HB4 HA4 HG4 HBX
    refine HRB.out.mono ?_
    rintro e w6 ⟨hrb, B6⟩
    have HB6 := hid (HB5.out.trans (B6.mono HB5.out.size))
    have HA6 : Hid (w6.heap[w.heap.size]? = some (.cells (u16s z8).toArray 23 (0, 0))) := (B6.block _ (by omega)).trans HA5.out
    have HP6 : Hid (w6.heap[g1]? = some (.cells (u16s X).toArray 23 (0, 0))) := (B6.block _ hg5).trans HPK1.out
    have hg6 : g1 < w6.heap.size := Nat.lt_of_lt_of_le hg5 B6.size
    clear B6 HB5 HA5 HG5 HRB HPK1 hg5
    obtain ⟨Y, q, okB, hY8, rfl, hqb, HYB⟩ : ∃ (X : List Nat) (m : Nat) (k : Bool), X.length = 8 ∧ e = .returned (.tuple #[.agg (u16s X).toArray, .int .i64 (m : Int), .bool k]) ∧ m ≤ 8 ∧ Hid ((k = true ∧ ∃ F, rwd (bn b) = some F ∧ F.length = m ∧ X = F ++ z (8 - F.length)) ∨ (k = false ∧ rwd (bn b) = none)) := by
      rcases hrb with ⟨v, h1, h2, h3⟩ | ⟨h1, X, h2, h3⟩
      · exact ⟨_, v.length, true, by unfold z; simp; omega, h3, h2, .inl ⟨rfl, v, h1, rfl, rfl⟩⟩
      · exact ⟨X, 0, false, h2, h3, by omega, .inr ⟨rfl, h1⟩⟩
    have HY8 := hid hY8
    have HBX := hid (box0 w6)
    obtain ⟨hpk1, hpk2⟩ := park w6 Y
    have HPK1 := hid hpk1
    have HPK2 := hid hpk2
    have HB7 := hid (HB6.out.trans (HPK2.out.mono HB6.out.size))
    have HA7 : Hid (((w6.alloc (.cells #[.int .u16 0, .int .u16 0, .int .u16 0, .int .u16 0, .int .u16 0, .int .u16 0, .int .u16 0, .int .u16 0] 23)).setRow w6.heap.size (u16s Y).toArray).heap[w.heap.size]? = some (.cells (u16s z8).toArray 23 (0, 0))) := (HPK2.out.block _ (by omega)).trans HA6.out
    have HP7 : Hid (((w6.alloc (.cells #[.int .u16 0, .int .u16 0, .int .u16 0, .int .u16 0, .int .u16 0, .int .u16 0, .int .u16 0, .int .u16 0] 23)).setRow w6.heap.size (u16s Y).toArray).heap[g1]? = some (.cells (u16s X).toArray 23 (0, 0))) := (HPK2.out.block _ hg6).trans HP6.out
    obtain ⟨w7, hw7⟩ : ∃ w7, (w6.alloc (.cells #[.int .u16 0, .int .u16 0, .int .u16 0, .int .u16 0, .int .u16 0, .int .u16 0, .int .u16 0, .int .u16 0] 23)).setRow w6.heap.size (u16s Y).toArray = w7 := ⟨_, rfl⟩
    rw [hw7] at HPK1 HB7 HA7 HP7
    have HW7 := hid hw7
    clear hrb hY8 hpk1 hpk2 hw7 HPK2 HA6 HP6 HB6
    have hmq : (m : Int) + (q : Int) = ((m + q : Nat) : Int) := by omega
    by_cases hgood : okF = true ∧ okB = true ∧ (sh = decide (m + q < 8))
    · obtain ⟨rfl, rfl, hsh⟩ := hgood
      obtain ⟨F, hF, hFm, hXF⟩ : ∃ F, rwd (bn f) = some F ∧ F.length = m ∧ X = F ++ z (8 - F.length) := by
        rcases HXF.out with ⟨_, h⟩ | ⟨h, _⟩
        · exact h
        · cases h
      obtain ⟨B, hBb, hBq, hYB⟩ : ∃ F, rwd (bn b) = some F ∧ F.length = q ∧ Y = F ++ z (8 - F.length) := by
        rcases HYB.out with ⟨_, h⟩ | ⟨h, _⟩
        · exact h
        · cases h
      obtain ⟨hok, hores⟩ : (F.length + B.length ≤ 7 ∨ (F.length = 8 ∧ B = [])) ∧ o = some (F ++ List.replicate (8 - B.length - F.length) 0 ++ B) := by
        rcases HCT.out with ⟨h0, h1, h2⟩ | ⟨h0, h1⟩
        · rw [hBb] at h2
          cases h2
          rw [h0] at hsh
          have h8 : ¬ m + q < 8 := of_decide_eq_false hsh.symm
          have hq0 : q = 0 := by rw [← hBq]; rfl
          have hF8 : F.length = 8 := by omega
          refine ⟨.inr ⟨hF8, rfl⟩, ?_⟩
          rw [← HPP.out, h1, hF]
          show (if F.length = 8 then some F else none) = _
          rw [if_pos hF8]
          simp [hF8]
        · rw [h0] at hsh
          have h8 : m + q < 8 := of_decide_eq_true hsh.symm
          refine ⟨.inl (by omega), ?_⟩
          rw [← HPP.out, h1, hF, hBb]
          show (if F.length + B.length ≤ 7 then _ else none) = _
          rw [if_pos (by omega)]
      have HEN := hid (ending_any F B hok)
      rw [← hXF, ← hYB, hBq] at HEN
      have HR8 : Hid ((F ++ List.replicate (8 - q - F.length) 0 ++ B).length = 8) := by
        show _ = _
        rcases hok with h | ⟨h, rfl⟩
        · simp; omega
        · simp [h] <;> omega
      rw [hBq] at hores
      obtain ⟨R, hR⟩ : ∃ R, F ++ List.replicate (8 - q - F.length) 0 ++ B = R := ⟨_, rfl⟩
      rw [hR] at HEN HR8 hores
      have HRR : Hid (PrsR o (.returned (.tuple #[.agg (u16s R).toArray, .int .i64 0]))) := by rw [hores]; exact PrsR.yes R
      clear hR hores hok hXF hYB hBq hFm hF hBb HXF HYB HCT HPP
      cases sh with
      | true =>
        have h8 : (m : Int) + (q : Int) < 8 := by have := of_decide_eq_true hsh.symm; omega
        clear hsh hmq
        go_wp2_with (first
          | (refine wpList_store_row rfl 23 (.tmp 10) (.tmp 37) rfl w6.heap.size (u16s Y).toArray rfl rfl 23 (u16s z8).toArray HBX.out (info8X HY8.out) ((size8 rfl).trans (size8 HY8.out).symm) (one16 Y) ?_; rw [HW7.out])
          | (refine wpList_load_row rfl 23 (.tmp 8) rfl g1 rfl 23 (u16s X).toArray (0, 0) _ HP7.out Tryd.underlying23 rfl (info8X HX8.out) ?_)
          | (refine wpList_load_row rfl 23 (.tmp 10) rfl w6.heap.size rfl 23 (u16s Y).toArray (0, 0) _ HPK1.out Tryd.underlying23 rfl (info8X HY8.out) ?_))
        refine (HEN.out w7).mono ?_
        rintro e w8 ⟨rfl, B8⟩
        have HA8 : Hid (w8.heap[w.heap.size]? = some (.cells (u16s z8).toArray 23 (0, 0))) := (B8.block _ (Array.getElem?_eq_some_iff.1 HA7.out).1).trans HA7.out
        have HB8 := hid (HB7.out.trans (B8.mono HB7.out.size))
        clear B8 HEN
        go_wp2_with ((refine wpList_store_row rfl 23 (.tmp 2) (.tmp 59) rfl w.heap.size (u16s R).toArray rfl rfl 23 (u16s z8).toArray HA8.out (info8X HR8.out) ((size8 rfl).trans (size8 HR8.out).symm) (one16 R) ?_))
        exact bodyPost_ret (results_row_tmp Tryd.results8 _ _ w.heap.size 23 (u16s R).toArray (0, 0) _ _ rfl (set_row HA8.out) Tryd.underlying23 (info8X HR8.out)) rfl ⟨HRR.out, below_row HB8.out (Nat.le_refl _) _⟩
      | false =>
        have h8 : ¬ (m : Int) + (q : Int) < 8 := by have := of_decide_eq_false hsh.symm; omega
        clear hsh hmq
        go_wp2_with (first
          | (refine wpList_store_row rfl 23 (.tmp 10) (.tmp 37) rfl w6.heap.size (u16s Y).toArray rfl rfl 23 (u16s z8).toArray HBX.out (info8X HY8.out) ((size8 rfl).trans (size8 HY8.out).symm) (one16 Y) ?_; rw [HW7.out])
          | (refine wpList_load_row rfl 23 (.tmp 8) rfl g1 rfl 23 (u16s X).toArray (0, 0) _ HP7.out Tryd.underlying23 rfl (info8X HX8.out) ?_)
          | (refine wpList_load_row rfl 23 (.tmp 10) rfl w6.heap.size rfl 23 (u16s Y).toArray (0, 0) _ HPK1.out Tryd.underlying23 rfl (info8X HY8.out) ?_))
        refine (HEN.out w7).mono ?_
        rintro e w8 ⟨rfl, B8⟩
        have HA8 : Hid (w8.heap[w.heap.size]? = some (.cells (u16s z8).toArray 23 (0, 0))) := (B8.block _ (Array.getElem?_eq_some_iff.1 HA7.out).1).trans HA7.out
        have HB8 := hid (HB7.out.trans (B8.mono HB7.out.size))
        clear B8 HEN
        go_wp2_with ((refine wpList_store_row rfl 23 (.tmp 2) (.tmp 59) rfl w.heap.size (u16s R).toArray rfl rfl 23 (u16s z8).toArray HA8.out (info8X HR8.out) ((size8 rfl).trans (size8 HR8.out).symm) (one16 R) ?_))
        exact bodyPost_ret (results_row_tmp Tryd.results8 _ _ w.heap.size 23 (u16s R).toArray (0, 0) _ _ rfl (set_row HA8.out) Tryd.underlying23 (info8X HR8.out)) rfl ⟨HRR.out, below_row HB8.out (Nat.le_refl _) _⟩
    · have hnone : o = none := by
        rw [← HPP.out]
        rcases HXF.out with ⟨rfl, F, hF, hFm, _⟩ | ⟨rfl, hF⟩
        · rcases HYB.out with ⟨rfl, B, hBb, hBq, _⟩ | ⟨rfl, hBb⟩
          · rcases HCT.out with ⟨rfl, h1, h2⟩ | ⟨rfl, h1⟩
            · rw [hBb] at h2
              cases h2
              have hq0 : q = 0 := by rw [← hBq]; rfl
              rw [h1, hF]
              show (if F.length = 8 then some F else none) = _
              rw [if_neg]
              intro h
              exact hgood ⟨rfl, rfl, (decide_eq_false (by omega)).symm⟩
            · rw [h1, hF, hBb]
              show (if F.length + B.length ≤ 7 then _ else none) = _
              rw [if_neg]
              intro h
              exact hgood ⟨rfl, rfl, (decide_eq_true (by omega)).symm⟩
          · rcases HCT.out with ⟨rfl, h1, h2⟩ | ⟨rfl, h1⟩
            · rw [hBb] at h2; cases h2
            · rw [h1, hBb, both_none]
        · rcases HCT.out with ⟨rfl, h1, h2⟩ | ⟨rfl, h1⟩
          · rw [h1, hF]; rfl
          · rw [h1, hF]
            cases rwd (bn b) <;> rfl
      have HR : Hid (PrsR o (.returned (.tuple #[.agg (u16s z8).toArray, .int .i64 8]))) := by rw [hnone]; exact PrsR.no
      clear hnone HXF HYB HCT HPP hmq
      cases okF with
      | false =>
        clear hgood
        go_wp2_with (first
          | (refine wpList_store_row rfl 23 (.tmp 10) (.tmp 37) rfl w6.heap.size (u16s Y).toArray rfl rfl 23 (u16s z8).toArray HBX.out (info8X HY8.out) ((size8 rfl).trans (size8 HY8.out).symm) (one16 Y) ?_; rw [HW7.out])
          | (refine wpList_store_row rfl 23 (.tmp 2) (.tmp 55) rfl w.heap.size (u16s z8).toArray rfl rfl 23 (u16s z8).toArray HA7.out (info8X HXL.out) ((size8 rfl).trans (size8 HXL.out).symm) (one16 z8) ?_))
        exact bodyPost_ret (results_row_tmp Tryd.results8 _ _ w.heap.size 23 (u16s z8).toArray (0, 0) _ _ rfl (set_row HA7.out) Tryd.underlying23 (info8X HXL.out)) rfl ⟨HR.out, below_row HB7.out (Nat.le_refl _) _⟩
      | true =>
        cases okB with
        | false =>
          clear hgood
          go_wp2_with (first
            | (refine wpList_store_row rfl 23 (.tmp 10) (.tmp 37) rfl w6.heap.size (u16s Y).toArray rfl rfl 23 (u16s z8).toArray HBX.out (info8X HY8.out) ((size8 rfl).trans (size8 HY8.out).symm) (one16 Y) ?_; rw [HW7.out])
            | (refine wpList_store_row rfl 23 (.tmp 2) (.tmp 55) rfl w.heap.size (u16s z8).toArray rfl rfl 23 (u16s z8).toArray HA7.out (info8X HXL.out) ((size8 rfl).trans (size8 HXL.out).symm) (one16 z8) ?_))
          exact bodyPost_ret (results_row_tmp Tryd.results8 _ _ w.heap.size 23 (u16s z8).toArray (0, 0) _ _ rfl (set_row HA7.out) Tryd.underlying23 (info8X HXL.out)) rfl ⟨HR.out, below_row HB7.out (Nat.le_refl _) _⟩
        | true =>
          cases sh with
          | true =>
            have h8 : ¬ (m : Int) + (q : Int) < 8 := fun h => hgood ⟨rfl, rfl, (decide_eq_true (by omega)).symm⟩
            have h9 : (8 : Int) ≤ (m : Int) + (q : Int) := by omega
            have h10 : decide ((m : Int) + (q : Int) < 8) = false := decide_eq_false h8
            clear hgood h8
            go_wp2_with (first
              | (refine wpList_store_row rfl 23 (.tmp 10) (.tmp 37) rfl w6.heap.size (u16s Y).toArray rfl rfl 23 (u16s z8).toArray HBX.out (info8X HY8.out) ((size8 rfl).trans (size8 HY8.out).symm) (one16 Y) ?_; rw [HW7.out])
              | (refine wpList_store_row rfl 23 (.tmp 2) (.tmp 55) rfl w.heap.size (u16s z8).toArray rfl rfl 23 (u16s z8).toArray HA7.out (info8X HXL.out) ((size8 rfl).trans (size8 HXL.out).symm) (one16 z8) ?_))
            exact bodyPost_ret (results_row_tmp Tryd.results8 _ _ w.heap.size 23 (u16s z8).toArray (0, 0) _ _ rfl (set_row HA7.out) Tryd.underlying23 (info8X HXL.out)) rfl ⟨HR.out, below_row HB7.out (Nat.le_refl _) _⟩
          | false =>
            have h8 : (m : Int) + (q : Int) < 8 := by
              rcases Nat.lt_or_ge (m + q) 8 with h | h
              · omega
              · exact absurd ⟨rfl, rfl, (decide_eq_false (by omega)).symm⟩ hgood
            clear hgood
            go_wp2_with (first
              | (refine wpList_store_row rfl 23 (.tmp 10) (.tmp 37) rfl w6.heap.size (u16s Y).toArray rfl rfl 23 (u16s z8).toArray HBX.out (info8X HY8.out) ((size8 rfl).trans (size8 HY8.out).symm) (one16 Y) ?_; rw [HW7.out])
              | (refine wpList_store_row rfl 23 (.tmp 2) (.tmp 55) rfl w.heap.size (u16s z8).toArray rfl rfl 23 (u16s z8).toArray HA7.out (info8X HXL.out) ((size8 rfl).trans (size8 HXL.out).symm) (one16 z8) ?_))
            exact bodyPost_ret (results_row_tmp Tryd.results8 _ _ w.heap.size 23 (u16s z8).toArray (0, 0) _ _ rfl (set_row HA7.out) Tryd.underlying23 (info8X HXL.out)) rfl ⟨HR.out, below_row HB7.out (Nat.le_refl _) _⟩
end Go.Proofs.YtpkmpebhlolhaaaDoor.X
