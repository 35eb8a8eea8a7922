/- lex.lines, and the iterator that it answers. (Stage 15.) -/
import Derived.Test.YtphkdagapoonjaaGreatDoorZLPA
import Derived.Test.YtphkdagapoonjaaGreatDoorLPK
import Derived.Shelf.Abstract
import Derived.OwnWalkIn
import Derived.TacticsInMore
import Derived.LoopNIn
import Derived.LoopIn
namespace Go.Proofs.YtphkdagapoonjaaGreatDoor.Lx
open Go.RowKit Go.Shelf
open Go.Proofs.YtphkdagapoonjaaGreatDoor.F (bn bn_length bn_append bn_inj bn_get byte_bd hid bn_extract isEmpty_false isEmpty_true str_eq same_eq)
open Go.Proofs.YtphkdagapoonjaaGreatDoor.U (nx enc encs scal val Bytes)
attribute [local go_sem] Oper.semAt_some
set_option linter.unusedVariables false

/-- The string of these bytes. -/
def mk (l : List Int) : ByteArray := ⟨(l.map fun c => c.toNat.toUInt8).toArray⟩
theorem bn_mk {l : List Int} (h : Bytes l) : bn (mk l) = l := by
  unfold mk
  rw [bn_arr]
  unfold nn
  rw [List.map_map]
  conv => rhs; rw [← List.map_id l]
  refine List.map_congr_left fun c hc => ?_
  have := h c hc
  simp
  omega
theorem mk_of {l : List Int} {t : ByteArray} (h : bn t = l) : t = mk l := bn_inj (by rw [h, bn_mk (h ▸ U.bn_bytes t)])
/-- The lines of a text, with their numbers. -/
def pcs : Nat → List Int → Nat → List (Nat × List Int)
  | 0, _, _ => []
  | f + 1, s, n => if s = [] then [] else (n, fl s) :: pcs f ((s.dropWhile no10).drop 1) (n + 1)
theorem rest_len {s : List Int} (h : s ≠ []) : ((s.dropWhile no10).drop 1).length + 1 ≤ s.length := by
  have := (fl_len h).2.1
  omega
theorem pcs_fuel : ∀ (f g : Nat) (s : List Int) (n : Nat), s.length ≤ f → s.length ≤ g → pcs f s n = pcs g s n
  | 0, 0, _, _, _, _ => rfl
  | 0, g + 1, s, n, h, _ => by
    have : s = [] := List.length_eq_zero_iff.1 (by omega)
    subst this
    rw [pcs, pcs, if_pos rfl]
  | f + 1, 0, s, n, _, h => by
    have : s = [] := List.length_eq_zero_iff.1 (by omega)
    subst this
    rw [pcs, pcs, if_pos rfl]
  | f + 1, g + 1, s, n, h1, h2 => by
    rw [pcs, pcs]
    by_cases hs : s = []
    · rw [if_pos hs, if_pos hs]
    · have := rest_len hs
      rw [if_neg hs, if_neg hs, pcs_fuel f g _ _ (by omega) (by omega)]
def rows (s : List Int) (n : Nat) : List (Nat × List Int) := pcs s.length s n
theorem rows_nil (n : Nat) : rows [] n = [] := rfl
theorem rows_cons {s : List Int} (h : s ≠ []) (n : Nat) : rows s n = (n, fl s) :: rows ((s.dropWhile no10).drop 1) (n + 1) := by
  unfold rows
  obtain ⟨f, hf⟩ : ∃ f, s.length = f + 1 := ⟨s.length - 1, by have := List.length_pos_iff.2 h; omega⟩
  have := rest_len h
  rw [hf, pcs, if_neg h, pcs_fuel f _ _ _ (by omega) (Nat.le_refl _)]
theorem lexF_fuel : ∀ (f g : Nat) (o : List Tk) (s : List Int) (n : Nat), s.length ≤ f → s.length ≤ g → lexF f o s n = lexF g o s n
  | 0, 0, _, _, _, _, _ => rfl
  | 0, g + 1, o, s, n, h, _ => by
    have : s = [] := List.length_eq_zero_iff.1 (by omega)
    subst this
    rw [lexF, lexF, if_pos rfl]
  | f + 1, 0, o, s, n, _, h => by
    have : s = [] := List.length_eq_zero_iff.1 (by omega)
    subst this
    rw [lexF, lexF, if_pos rfl]
  | f + 1, g + 1, o, s, n, h1, h2 => by
    rw [lexF, lexF]
    by_cases hs : s = []
    · rw [if_pos hs, if_pos hs]
    · have := rest_len hs
      rw [if_neg hs, if_neg hs, lexF_fuel f g _ _ _ (by omega) (by omega)]
abbrev encL (x : Nat × List Int) : Array Value := #[.int .i64 (x.1 : Int), .string (mk x.2)]
theorem suf_one : ∀ (q : List UInt8), Lib.hasSuffix q [13] = decide ((nn q).getLast? = some 13) := by
  intro q
  unfold Lib.hasSuffix
  rw [Bool.eq_iff_iff, List.isSuffixOf_iff_suffix, decide_eq_true_eq]
  constructor
  · rintro ⟨a, rfl⟩
    simp [nn]
  · intro h
    rcases List.eq_nil_or_concat q with rfl | ⟨a, c, rfl⟩
    · simp [nn] at h
    · simp [nn] at h
      refine ⟨a, ?_⟩
      have : c = 13 := UInt8.toNat_inj.1 (by have h13 : (13 : UInt8).toNat = 13 := rfl; omega)
      rw [this]
      simp
theorem trim_any (s : ByteArray) (hs : s.size ≤ 1000000000) (w : World) : Calls Tryz.prog 34 #[.string s, .string ⟨#[13]⟩] w fun e w' => (∃ t, bn t = strip (bn s) ∧ e = .returned (.string t)) ∧ w' = w := by
  refine Calls.mono (show Calls Tryz.prog 34 #[.string s, .string ⟨#[13]⟩] w _ from Any.strings_TrimSuffix Tryz.l102 s ⟨#[13]⟩ w (by omega)) ?_
  rintro e w' ⟨rfl, rfl⟩
  refine ⟨⟨_, ?_, rfl⟩, rfl⟩
  rw [bn_arr]
  show nn (Lib.trimSuffix s.data.toList [13]) = strip (nn s.data.toList)
  unfold Lib.trimSuffix strip
  rw [suf_one]
  by_cases h : (nn s.data.toList).getLast? = some 13
  · rw [decide_eq_true h, if_pos rfl, if_pos h, nn_take, List.dropLast_eq_take]
    simp [nn]
  · rw [decide_eq_false h, if_neg (by simp), if_neg h]
theorem cutd_any (s : ByteArray) (c : UInt8) (hs : s.size ≤ 1000000000) (w : World) (G : Gl w) : Calls Tryz.prog 33 #[.string s, .string ⟨#[c]⟩] w fun e w' => (∃ a b, bn a = (bn s).takeWhile (is c.toNat) ∧ bn b = ((bn s).dropWhile (is c.toNat)).drop 1 ∧ e = .returned (.tuple #[.string a, .string b, .bool (decide ((c.toNat : Int) ∈ bn s))])) ∧ ∃ m, w' = w.drewN m := by
  obtain ⟨m, hm⟩ := G.maxl
  refine Calls.mono (show Calls Tryz.prog 33 #[.string s, .string ⟨#[c]⟩] w _ from Any.strings_Cut Tryz.l145 s ⟨#[c]⟩ m w (by omega) hm) ?_
  rintro e w' ⟨rfl, n, rfl⟩
  have h := cut_one s.data.toList c
  refine ⟨⟨⟨(Lib.cut s.data.toList [c]).1.toArray⟩, ⟨(Lib.cut s.data.toList [c]).2.1.toArray⟩, ?_, ?_, by rw [bn_nn, ← h.2.2]⟩, n, rfl⟩
  · rw [bn_arr]; exact h.1
  · rw [bn_arr]; exact h.2.1
theorem fl_no {s : List Int} (h : (10 : Int) ∉ s) : fl s = s.takeWhile no10 := by
  have hall : ∀ x ∈ s, no10 x = true := fun x hx => by unfold no10; simp only [decide_eq_true_eq]; intro e; exact h (e ▸ hx)
  have := tw_all hall
  unfold fl
  rw [this.2, if_pos rfl, this.1]
theorem fl_yes {s : List Int} (h : (10 : Int) ∈ s) : fl s = strip (s.takeWhile no10) := by
  unfold fl
  rw [if_neg]
  intro e
  have h1 : s.takeWhile no10 = s := by
    have := List.takeWhile_append_dropWhile (p := no10) (l := s)
    rw [e, List.append_nil] at this
    exact this
  have := tw_mem (p := no10) (q := s) 10 (by rw [h1]; exact h)
  revert this; decide
set_option maxRecDepth 100000 in
set_option maxHeartbeats 4000000 in
theorem lines_in (n : Nat) (hn : 1 ≤ n) (Bs : Nat) (s : ByteArray) (hs : s.size ≤ 1000000) (w : World) (hBs : Boxed w Bs 9 (.string s)) :
    Hands Fence.wide n Tryz.prog 32 #[.pointer (some ⟨Bs, 0, none⟩)] encL (rows (bn s) 1) w Gl := by
  intro l J Jp W hW hJ hK hY h0
  have hb := (hW.block Bs hBs.lt).trans hBs
  have hb' : Boxed W Bs 9 (.string s) := hb
  have hcs := hb'.cell
  obtain ⟨xs, hxs⟩ : ∃ xs, rows (bn s) 1 = xs := ⟨_, rfl⟩
  rw [hxs] at hY ⊢
  have HJ : Hid (∀ i W m, J i W → J i (World.drewN W m)) := fun i W m h => hJ i W _ none h ⟨rfl, rfl, rfl, Nat.le_refl _, fun _ _ _ => rfl⟩ (fun r e => by cases e)
  have HY := hid hY
  have HK := hid hK
  have H0 := hid h0
  have HXS := hid hxs
  clear hY hK hJ h0 hb hb' hBs hxs
  refine callsIn_of_wp Tryz.func32 rfl trivial ?_ rfl
  simp only [Tryz.ntmps32, List.size_toArray, List.length_cons, List.length_nil, Nat.reduceAdd, Nat.reduceSub, Array.replicate_succ, Array.replicate_zero, List.push_toArray, List.append_toArray, List.nil_append, List.cons_append]
  gi_wp2
  gi_loopw [3, 4] (fun v3 v4 wr => ∃ (i : Nat) (r : ByteArray), v3 = .string r ∧ v4 = .int .i64 ((i : Int) + 1) ∧ i + r.size ≤ s.size ∧ i ≤ xs.length ∧ Hid (J i wr) ∧ Hid (xs.drop i = rows (bn r) (i + 1))) (fun v3 v4 _ => s.size + 1 - (intOf v4).toNat)
  case atStart => exact ⟨0, s, rfl, by rfl, by omega, by omega, H0.out, HXS.out.symm⟩
  case round =>
    obtain ⟨i, r, rfl, rfl, hir, hix, HJi, HR⟩ := hrel
    by_cases hr : r.size = 0
    · have hemp := isEmpty_true r hr
      have HE : Hid (J xs.length wr) := by
        have h1 : bn r = [] := List.length_eq_zero_iff.1 (by rw [bn_length]; exact hr)
        have h2 := HR.out
        rw [h1, rows_nil, List.drop_eq_nil_iff] at h2
        have h3 : i = xs.length := by omega
        show J _ _
        rw [← h3]; exact HJi.out
      gi_wp2
      go_end0
      exact .inl ⟨_, rfl, HE.out⟩
    have hemp := isEmpty_false r (by omega)
    have hne : bn r ≠ [] := fun e => hr (by rw [← bn_length, e]; rfl)
    have hR := HR.out
    rw [rows_cons hne] at hR
    have hil : i < xs.length := by
      apply Classical.byContradiction
      intro h
      rw [List.drop_eq_nil_of_le (by omega)] at hR
      cases hR
    have HX1 : Hid (xs[i]? = some (i + 1, fl (bn r))) := by
      have := congrArg (fun l => l[0]?) hR
      simp only [List.getElem?_drop] at this
      exact this
    have HX2 : Hid (xs.drop (i + 1) = rows (((bn r).dropWhile no10).drop 1) (i + 1 + 1)) := by
      have := congrArg (List.drop 1) hR
      rw [List.drop_drop] at this
      exact this
    have hlen := rest_len hne
    rw [bn_length] at hlen
    have HCU := hid (cutd_any r 10 (by omega) wr (HK.out i wr HJi.out))
    rw [show (((10 : UInt8).toNat : Nat) : Int) = 10 from rfl, show is 10 = no10 from rfl] at HCU
    have HFN := hid (fun h => fl_no (s := bn r) h)
    have HFY := hid (fun h => fl_yes (s := bn r) h)
    clear HR hR hne
    have hwr : IntKind.i64.wrap ((i : Int) + 1 + 1) = ((i + 1 : Nat) : Int) + 1 := by rw [IntKind.wrap_i64]; omega
    gi_wp2_with fail
    refine ⟨trivial, ?_⟩
    refine (callsIn_wide.2 HCU.out).mono ?_
    rintro e w2 ⟨⟨a, b, ha, hb, rfl⟩, m, rfl⟩
    have HJ2 := hid (HJ.out i wr m HJi.out)
    have hbs : i + 1 + b.size ≤ s.size := by
      rw [← hb, bn_length] at hlen
      omega
    rw [← hb] at HX2
    have has : a.size ≤ 1000000000 := by
      have h1 : (bn a).length ≤ (bn r).length := by rw [ha]; exact (List.takeWhile_sublist _).length_le
      rw [bn_length, bn_length] at h1
      omega
    by_cases hm : (10 : Int) ∈ bn r
    · rw [decide_eq_true hm]
      have HT := hid (trim_any a has (wr.drewN m))
      have HFE := hid (HFY.out hm)
      rw [← ha] at HFE
      clear HFN HFY HCU hm hb ha
      gi_wp2_with fail
      refine ⟨trivial, ?_⟩
      refine (callsIn_wide.2 HT.out).mono ?_
      rintro e w3 ⟨⟨t, ht, rfl⟩, rfl⟩
      have HTM : Hid (t = mk (fl (bn r))) := mk_of (by rw [ht, HFE.out])
      obtain ⟨fn, tmps, assign, body, hy, hRR⟩ := HY.out i _ _ HX1.out HJ2.out
      unfold encL at hy
      simp only at hy
      rw [← HTM.out, show (((i + 1 : Nat) : Int)) = (i : Int) + 1 by omega] at hy
      have HRR := hid hRR
      clear ht HFE HT hRR
      gi_wp2_with fail
      refine HRR.out.mono ?_
      rintro e W3 (⟨rfl, hJ3⟩ | ⟨ch, rfl, hp⟩)
      · have HJ3 := hid hJ3
        clear hJ3 hy HRR
        gi_wp2
        go_roundw
        case rel => exact ⟨i + 1, b, rfl, by first | rfl | go_num | (congr 1; omega), hbs, by omega, HJ3.out, HX2.out⟩
        case measure => simp [intOf]; omega
      · have HP := hid hp
        clear hp hy HRR
        gi_wp2
        exact ⟨rfl, .inr ⟨ch, rfl, HP.out⟩⟩
    · rw [decide_eq_false hm]
      have HTM : Hid (a = mk (fl (bn r))) := mk_of (by rw [ha, HFN.out hm])
      obtain ⟨fn, tmps, assign, body, hy, hRR⟩ := HY.out i _ _ HX1.out HJ2.out
      unfold encL at hy
      simp only at hy
      rw [← HTM.out, show (((i + 1 : Nat) : Int)) = (i : Int) + 1 by omega] at hy
      have HRR := hid hRR
      clear ha hb hRR HFN HFY HCU hm
      gi_wp2_with fail
      refine HRR.out.mono ?_
      rintro e W3 (⟨rfl, hJ3⟩ | ⟨ch, rfl, hp⟩)
      · have HJ3 := hid hJ3
        clear hJ3 hy HRR
        gi_wp2
        go_roundw
        case rel => exact ⟨i + 1, b, rfl, by first | rfl | go_num | (congr 1; omega), hbs, by omega, HJ3.out, HX2.out⟩
        case measure => simp [intOf]; omega
      · have HP := hid hp
        clear hp hy HRR
        gi_wp2
        exact ⟨rfl, .inr ⟨ch, rfl, HP.out⟩⟩
end Go.Proofs.YtphkdagapoonjaaGreatDoor.Lx
