/- Texts of one layer, one behind the other: FA MG KA KB KC. -/
import Derived.Test.YtpkegjbmnilmdaaDoorRows
import Derived.Test.YtpkegjbmnilmdaaDoorZM2
import Derived.Test.YtpkegjbmnilmdaaDoorZU2
import Derived.Test.YtpkegjbmnilmdaaDoorZM1
import Derived.Test.YtpkegjbmnilmdaaDoorZN8
import Derived.Test.YtpkegjbmnilmdaaDoorZD2
import Derived.Test.YtpkegjbmnilmdaaDoorZD4
import Derived.ProofKit
import Derived.LaidMore
import Derived.OpenShut
import Derived.Stop.Joined
import Derived.Lib.LaidTab
import Derived.Laws.BitsLemmas
import Derived.BigQuiet
import Derived.Lib.Tables
import Derived.Deep.QuietTactic
/- What the frames share: what the listed variable holds when the call begins. -/
namespace Go.Proofs.YtpkegjbmnilmdaaDoor
open Go.ChangeShapes Go.WideShapes Go.ChangeAt Go.RowKit
set_option linter.unusedVariables false

abbrev laid1 : List (String × DataW Unit) := Rows.skelRestsRow.laid
/-- The listed variable's name. -/
abbrev nm0 : String := Rows.skelRestsRow.named.headD default
theorem own : ownKnob Tryd.prog.godebug = none := by kernel_rfl
theorem laidOut : laidOutB Tryd.prog = true := by kernel_rfl
theorem g0n : Tryd.prog.globalNamed nm0 = some 0 := by kernel_rfl
theorem t0n : (Tryd.prog.globals[0]?).map (·.type) = some 58 := by kernel_rfl
/-- An array of strings that reads as strings holds just these. -/
theorem cells_of_strs {H : Type} {enc : TypeId × Value → H} {P : Program} {w : World} {base : Nat} {sp : Nat → Bool} {held : Bool} {fuel : Nat} {t e : TypeId} {n : Nat} {cs : List Value} {zs : List (List UInt8)} {p : List MemPlace}
    (ht : P.underlying t = some (.array n e)) (he : P.underlying e = some .string) (hce : P.cellsOf e = 1) (hct : P.cellsOf t = n)
    (h : DataW.trod enc P w base sp held fuel t cs = some (.agg (zs.map fun z => .lit (.string z)), p)) : cs = zs.map fun z => Value.string ⟨z.toArray⟩ := by
  cases fuel with
  | zero => simp [DataW.trod] at h
  | succ fuel =>
    simp only [DataW.trod, ht, hce, hct, Nat.mul_one] at h
    split at h
    · rename_i hl
      obtain ⟨xs, hm, hx⟩ := Option.map_eq_some_iff.1 h
      have hxs : xs.map (·.1) = zs.map fun z => (DataW.lit (.string z) : DataW H) := by
        have := congrArg Prod.fst hx
        simpa using this
      have hxl : xs.length = n := by simpa using Lib.mapM_length hm
      have hzl : zs.length = n := by
        have := congrArg List.length hxs
        simp at this
        omega
      apply List.ext_getElem?
      intro i
      by_cases hi : i < n
      · obtain ⟨b, hb, hf⟩ := Lib.mapM_at hm i i (by simp [hi])
        obtain ⟨z, hc, rfl, _⟩ := DataW.trod_string he hf
        have h1 : cs[i]? = some (.string z) := by
          have := congrArg (·[0]?) hc
          simpa [List.getElem?_take, List.getElem?_drop] using this
        have h2 : (xs.map (·.1))[i]? = some (DataW.lit (.string z.data.toList) : DataW H) := by simp [hb]
        rw [hxs] at h2
        simp only [List.getElem?_map, Option.map_eq_some_iff, DataW.lit.injEq, Lit.string.injEq] at h2
        obtain ⟨z', hz', rfl⟩ := h2
        rw [h1]
        simp only [List.getElem?_map, hz', Option.map_some]
      · rw [List.getElem?_eq_none (by omega), List.getElem?_eq_none (by simp; omega)]
    · cases h
theorem names_lit : (Rows.laid_portcullis_skel_names : DataW Unit) = .agg ((S.names.map fun b => b.data.toList).map fun z => .lit (.string z)) := by kernel_rfl
theorem names_back : ((S.names.map fun b => b.data.toList).map fun z => Value.string ⟨z.toArray⟩) = S.names.map Value.string := by kernel_rfl
theorem of_laid {W : World} (h : laidMetH Tryd.prog laid1 W) : S.Nms W := by
  rw [MakeChecks.laidMetH_plain _ _ _ (by kernel_rfl)] at h
  obtain ⟨ps, ⟨g0, t0, cs0, f0, p0, q0, hg0, ht0, hv0, hd0, _⟩, _, _⟩ := h
  obtain rfl := Option.some.inj (g0n.symm.trans hg0)
  obtain rfl := Option.some.inj (t0n.symm.trans ht0)
  have hd := hd0
  rw [names_lit] at hd
  have hc := cells_of_strs Tryd.underlying58 Tryd.underlying9 (by kernel_rfl) (by kernel_rfl) hd
  rw [names_back] at hc
  unfold World.var? at hv0
  rw [hg0] at hv0
  simp only [Option.bind_some] at hv0
  cases hh : W.heap[0]? with
  | none => rw [hh] at hv0; cases hv0
  | some o =>
    rw [hh] at hv0
    cases o <;> simp at hv0
    rename_i cs t z
    subst hv0
    exact ⟨t, z, by rw [hh, ← hc]⟩
theorem door_met (os : Os) (args : Array Value) : laidMetH Tryd.prog laid1 ((World.doorLaid Tryd.prog 4000 os).forCall (fun _ _ => 0) ⟨#[], args, []⟩).memory :=
  laidMetH_of_parts3 (fuel := 8) (laidMet_of_run' 8 (by kernel_rfl) (by kernel_rfl)) (by kernel_rfl) (by kernel_rfl)
end Go.Proofs.YtpkegjbmnilmdaaDoor
/- What the walks of stage 8 want of the program (Ctr), and SkelRests' walk over it. -/
namespace Go.Proofs.YtpkegjbmnilmdaaDoor.S
open Go.RowKit
set_option linter.unusedVariables false

/-- A text that is not too long. -/
def Fit (s : ByteArray) : Prop := s.size ≤ 10000 ∧ (N.nfdI (U.dec (U.bn s))).length ≤ 5000
/-- What a text looks like, as code points. -/
def sk (s : ByteArray) : List Int := skl (U.dec (U.bn s))
structure Ctr : Prop where
  skel : ∀ (s : ByteArray) (w : World), Fit s → Calls Tryd.prog 12 #[.string s] w fun e W' => SklR (U.dec (U.bn s)) w e W'
  alike : ∀ (s t : ByteArray) (w : World), Fit s → Fit t → Calls Tryd.prog 13 #[.string s, .string t] w fun e W' => e = .returned (.bool (decide (sk s = sk t))) ∧ Below w.heap.size w W'
  works : ∀ (w : World), Nms w → Calls Tryd.prog 8 #[] w fun e W' => e = .returned (.bool true) ∧ Below w.heap.size w W'
theorem fit_small {s : ByteArray} (h : s.size ≤ 1300) : Fit s := by
  have h1 := nfd_len (U.bn_bytes s)
  rw [U.bn_length] at h1
  exact ⟨by omega, by omega⟩
theorem encs_scal {l : List Int} (h : ∀ c ∈ l, U.scal c = true) : U.dec (U.encs l) = l := (U.back l (List.all_eq_true.2 h)).1
/-- What a skeleton is as a text. -/
theorem sk_text {s t : ByteArray} (hs : s.size ≤ 600) (h : U.bn t = U.encs (sk s)) : U.dec (U.bn t) = sk s ∧ sk t = sk s ∧ Fit t := by
  have e1 : U.dec (U.bn t) = sk s := by rw [h]; exact encs_scal (skl_scal (dec_scs s))
  have h2 := skl_len (U.bn_bytes s)
  rw [U.bn_length] at h2
  have h3 := U.encs_len (sk s)
  rw [← h, U.bn_length] at h3
  have e4 : N.nfdI (U.dec (U.bn t)) = sk s := by rw [e1]; exact N.nfd_nfd _
  refine ⟨e1, ?_, ?_, ?_⟩
  · unfold sk; rw [e1]; exact skl_skl _
  · unfold sk at h3; omega
  · rw [e4]; unfold sk; omega
theorem sk_same {s t u : ByteArray} (h : U.bn t = U.encs (sk s)) (hu : U.bn u = U.encs (sk t)) (e : sk t = sk s) : u = t := U.bn_inj (by rw [hu, e, h])
set_option maxRecDepth 100000 in
set_option maxHeartbeats 8000000 in
theorem rests_walk (C : Ctr) (s : ByteArray) (w : World) (hN : Nms w) (hs : s.size ≤ maxLen) :
    Calls Tryd.prog 4 #[.string s] w fun e W' => e = .returned (.bool true) ∧ Below w.heap.size w W' := by
  unfold maxLen at hs
  have HW : Hid (∀ W, Below w.heap.size w W → Calls Tryd.prog 8 #[] W fun e W' => e = .returned (.bool true) ∧ Below W.heap.size W W') := fun W hB => C.works W (hN.below hB (Nat.le_refl _))
  clear hN
  by_cases h6 : 600 < s.size
  · go_enter Tryd.func4, Tryd.ntmps4
    go_wp2_with (go_at_call 8; refine (HW.out _ (Below.refl _ _)).mono ?_; rintro e w1 ⟨rfl, B1⟩)
    go_ret
    exact ⟨rfl, B1⟩
  · have h6z : (s.size : Int) ≤ 600 := by omega
    have hf : Fit s := fit_small (by omega)
    have HS := hid (fun W => C.skel s W hf)
    have HC := hid C
    have HST := hid (fun (t : ByteArray) (h : U.bn t = U.encs (sk s)) => sk_text (by omega) h)
    have HF := hid hf
    clear C hf
    go_enter Tryd.func4, Tryd.ntmps4
    go_wp2_with fail
    refine (HS.out _).mono ?_
    rintro e w1 ⟨⟨a, rfl, ha⟩, B1⟩
    have HA := hid (HST.out a ha)
    have H2 : Hid (∀ W, Calls Tryd.prog 12 #[.string a] W fun e W' => e = .returned (.string a) ∧ Below W.heap.size W W') := fun W => by
      refine (HC.out.skel a W HA.out.2.2).mono ?_
      rintro e w2 ⟨⟨t, rfl, ht⟩, B2⟩
      exact ⟨by rw [sk_same ha ht HA.out.2.1], B2⟩
    have H3 : Hid (∀ W, Calls Tryd.prog 13 #[.string s, .string a] W fun e W' => e = .returned (.bool true) ∧ Below W.heap.size W W') := fun W => by
      refine (HC.out.alike s a W HF.out HA.out.2.2).mono ?_
      rintro e w2 ⟨rfl, B2⟩
      exact ⟨by rw [HA.out.2.1]; simp, B2⟩
    have hse := self_eq a
    have HB1 := hid B1
    clear HS HST HA HF HC ha B1
    go_wp2_with (first
      | (go_at_call 8; refine (HW.out _ HB3.out).mono ?_; rintro e w4 ⟨rfl, B4⟩; have HB4 := hid (HB3.out.trans (B4.mono HB3.out.size)); clear B4)
      | (go_at_call 13; refine (H3.out _).mono ?_; rintro e w3 ⟨rfl, B3⟩; have HB3 := hid (HB2.out.trans (B3.mono HB2.out.size)); clear B3)
      | (go_at_call 12; refine (H2.out _).mono ?_; rintro e w2 ⟨rfl, B2⟩; have HB2 := hid (HB1.out.trans (B2.mono HB1.out.size)); clear B2))
    go_ret
    exact ⟨rfl, HB4.out⟩
end Go.Proofs.YtpkegjbmnilmdaaDoor.S
/- skel.Skeleton and skel.Alike. -/
namespace Go.Proofs.YtpkegjbmnilmdaaDoor.S
open Go.RowKit
set_option linter.unusedVariables false

set_option maxRecDepth 100000 in
set_option maxHeartbeats 1000000 in
theorem unseen_any (r : Int) (w : World) : Calls Tryd.prog 30 #[.int .i32 r] w fun e W' => e = .returned (.bool (!kp r)) ∧ W' = w := by
  go_enter Tryd.func30, Tryd.ntmps30
  go_wp2
  all_goals (go_ret; exact ⟨U.ret_bool (by unfold kp; rw [Bool.eq_iff_iff]; simp; try omega), rfl⟩)
set_option maxRecDepth 100000 in
set_option maxHeartbeats 8000000 in
theorem skel_any (s : ByteArray) (w : World) (hs : s.size ≤ 10000) (hl : (N.nfdI (U.dec (U.bn s))).length ≤ 5000) :
    Calls Tryd.prog 12 #[.string s] w fun e W' => SklR (U.dec (U.bn s)) w e W' := by
  have hdl := U.dec_len (U.bn s).length (U.bn s) (Nat.le_refl _) (U.bn_bytes s)
  rw [U.bn_length] at hdl
  have HDEC := hid (U.decode_any s (by omega) w)
  have HSC : Hid (∀ c ∈ skl (U.dec (U.bn s)), U.scal c = true) := skl_scal (dec_scs s)
  obtain ⟨L, hL⟩ : ∃ L, U.dec (U.bn s) = L := ⟨_, rfl⟩
  rw [hL] at HDEC hl HSC hdl ⊢
  have HSK : Hid (skl L = N.nfdI (lks (N.nfdI L))) := rfl
  have HNF := hid (fun v W (h : N.Row21 W v L) => N.nfd_any v L W (by omega) h)
  obtain ⟨M, hM⟩ : ∃ M, N.nfdI L = M := ⟨_, rfl⟩
  obtain ⟨S, hS⟩ : ∃ S, skl L = S := ⟨_, rfl⟩
  have HGS : Hid (∀ e W, ((∃ t, e = .returned (.string t) ∧ U.bn t = U.encs S) ∧ Below w.heap.size w W) → SklR L w e W) := by rw [← hS]; exact fun e W h => h
  rw [hM] at hl HSK HNF
  rw [hS] at HSC HSK
  obtain ⟨n, hn⟩ : ∃ n, M.length = n := ⟨_, rfl⟩
  have HN := hid hn
  rw [hn] at hl
  clear hL hM hS hn
  go_enter Tryd.func12, Tryd.ntmps12
  go_wp2_with fail
  refine (show Calls _ _ _ _ _ from HDEC.out).mono ?_
  rintro e w0 ⟨v0, rfl, r0, B0⟩
  have HN0 := hid (HNF.out v0 w0 (N.Row21.of_own rfl r0))
  have HB0 := hid B0
  clear r0 B0 HDEC HNF
  go_wp2_with fail
  refine (show Calls _ _ _ _ _ from HN0.out).mono ?_
  rintro e w1 ⟨v1, rfl, r1, B1⟩
  rw [HN.out] at r1
  obtain ⟨a1, c1, rfl⟩ := own_sh21 r1
  have HI := hid (U.IntsAt.own HN.out.symm r1)
  obtain ⟨a, c, he, hf⟩ := ints_form HI.out
  rw [HN.out] at he hf
  cases he
  have HF := hid hf
  have HB1 := hid (HB0.out.trans (B1.mono HB0.out.size))
  clear r1 B1 HN0 HB0 hf HI
  go_wp2_with fail
  go_loopw [3, 12] (fun v4 v5 wr => ∃ (k m c : Nat) (a : Option Addr), k ≤ n ∧ m ≤ 2 * k ∧ v4 = .slice a m c ∧ v5 = .int .i64 k ∧ Hid (m = (lks (M.take k)).length) ∧ Hid (wr.ownsRow w1.heap.size 21 1 (.slice a m c) m ((lks (M.take k)).map (Value.int .i32))) ∧ Hid (Below w1.heap.size w1 wr)) (fun _ v5 _ => n - (intOf v5).toNat)
  case atStart => exact ⟨0, 0, 0, none, Nat.zero_le _, Nat.le_refl _, rfl, rfl, rfl, World.ownsRow_nil _ _ _ _, Below.refl _ _⟩
  case round =>
    obtain ⟨k, m, c, a, hk, hmk, rfl, rfl, HM, HR, HB⟩ := hrel
    by_cases hlt : k < n
    · obtain ⟨b, off, rfl, hck⟩ := cell_at HF.out HB.out k hlt
      have HK := hid (lks_keep M k (by rw [HN.out]; exact hlt))
      have HD := hid (lks_drop M k (by rw [HN.out]; exact hlt))
      have hml := lk_len (M[k]?.getD 0)
      have HRL := hid (fun W => D.like_any (M[k]?.getD 0) W)
      have HUN := hid (unseen_any (M[k]?.getD 0))
      obtain ⟨Z, hZ⟩ : ∃ Z, D.lk (M[k]?.getD 0) = Z := ⟨_, rfl⟩
      rw [hZ] at HK hml HRL
      obtain ⟨K, hK⟩ : ∃ K, kp (M[k]?.getD 0) = K := ⟨_, rfl⟩
      rw [hK] at HK HD HUN
      obtain ⟨x, hx⟩ : ∃ x, M[k]?.getD 0 = x := ⟨_, rfl⟩
      rw [hx] at hck HRL HUN
      obtain ⟨Y, hY⟩ : ∃ Y, lks (M.take k) = Y := ⟨_, rfl⟩
      rw [hY] at HK HD HM HR
      obtain ⟨q, hq⟩ : ∃ q, Z.length = q := ⟨_, rfl⟩
      have HQ := hid hq
      rw [hq] at hml
      clear hx hZ hY hK hq
      have z1 := HB.out.size
      cases K with
      | false =>
        have H := hid (HD.out rfl)
        clear HK HD HRL
        go_wp2_with (go_at_call 30; refine (HUN.out _).mono ?_; rintro e w2 ⟨rfl, hw2⟩; obtain rfl := hw2.symm)
        go_roundw
        case rel => exact ⟨k + 1, m, c, a, by omega, by omega, rfl, by go_num, by show _ = _; rw [H.out]; exact HM.out, by show World.ownsRow _ _ _ _ _ _ _; rw [H.out]; exact HR.out, HB⟩
        case measure => simp [intOf]; omega
      | true =>
        have HT : Hid (lks (M.take (k + 1)) = Y ++ Z) := HK.out rfl
        clear HK HD
        go_wp2_with (first
          | (at_builtin; refine U.wpList_append_ints rfl _ _ rfl w1.heap.size _ m Y rfl R3.out _ Z rfl S3.out (by have := HQ.out; omega) HB3.out.size ?_; intro v4 w4 r4 g4; rw [HQ.out] at r4; obtain ⟨a4, c4, rfl⟩ := own_sh21 r4)
          | (go_at_call 30; refine (HUN.out _).mono ?_; rintro e w2 ⟨rfl, hw2⟩; obtain rfl := hw2.symm)
          | (go_at_call 31; refine (HRL.out _).mono ?_; rintro e w3 ⟨⟨v3, rfl, hI3⟩, B3⟩; have R3 := hid (U.ownsRow_below HR.out B3 (Nat.le_refl _)); have HB3 := hid (HB.out.trans (B3.mono HB.out.size)); have S3 := hid (ans_src hI3); obtain ⟨a3, c3, hv3, _, _⟩ := id hI3; rw [HQ.out] at hv3; subst hv3; clear hI3 B3))
        go_roundw
        case rel =>
          refine ⟨k + 1, m + q, c4, a4, by omega, by omega, rfl, by go_num, by show _ = _; rw [HT.out, List.length_append, ← HM.out, HQ.out], ?_, U.below_grow HB3.out HB3.out.size R3.out g4⟩
          show World.ownsRow _ _ _ _ _ _ _
          rw [HT.out]; exact r4
        case measure => simp [intOf]; omega
    · have ht : M.take k = M := List.take_of_length_le (by rw [HN.out]; omega)
      rw [ht] at HM HR
      have HLM : Hid ((lks M).length ≤ 10000) := by show _ ≤ _; rw [← HM.out]; omega
      have HNF := hid (N.nfd_any (.slice a m c) (lks M) wr HLM.out (N.Row21.of_own HM.out HR.out))
      rw [← HSK.out] at HNF
      have HW := hid (HB1.out.trans (HB.out.mono HB1.out.size))
      have HSL : Hid (S.length ≤ 30000) := by
        have h1 := N.nfdI_len (lks M)
        rw [← HSK.out] at h1
        have h2 := HLM.out
        show _ ≤ _
        omega
      clear ht HM HR HB HLM
      go_wp2_with fail
      refine (show Calls _ _ _ _ _ from HNF.out).mono ?_
      rintro e w2 ⟨v2, rfl, r2, B2⟩
      have HE := hid (U.encode_any v2 S (by have := HSL.out; omega) w2 (U.IntsAt.own rfl r2))
      have HB2 := hid (HW.out.trans (B2.mono HW.out.size))
      clear r2 B2 HNF HSL
      go_wp2_with fail
      refine (show Calls _ _ _ _ _ from HE.out).mono ?_
      rintro e w3 ⟨⟨t, r, rfl, ht⟩, B3⟩
      have HT : Hid (U.bn t = U.encs S) := by
        rcases ht with ⟨_, _, h⟩ | ⟨h, _⟩
        · exact h
        · rw [List.all_eq_true.2 HSC.out] at h; cases h
      clear ht
      go_wp2
      go_ret
      exact HGS.out _ _ ⟨⟨t, rfl, HT.out⟩, HB2.out.trans (B3.mono HB2.out.size)⟩
end Go.Proofs.YtpkegjbmnilmdaaDoor.S
/- Scripts as bits of one number: plain, and skel.gathered. -/
namespace Go.Proofs.YtpkegjbmnilmdaaDoor.S
open Go.RowKit
set_option linter.unusedVariables false

/-! ### Plain -/
theorem tab_scr : ∀ x ∈ D.tab, 0 ≤ x.2.2.2.1 ∧ x.2.2.2.1 ≤ 11 := by decide +kernel
theorem scr_bd (r : Int) : 0 ≤ scr r ∧ scr r ≤ 11 := by
  unfold scr
  rw [D.fnd_tab]
  unfold D.pickR
  cases h : D.tab.find? (D.inRow r) with
  | none => exact by decide
  | some x => exact tab_scr x (List.mem_of_find?_eq_some h)
/-- The scripts of a row, each one as the bit of its number. -/
def gstF (a : Nat) (l : List Int) : Nat := l.foldl (fun a r => a ||| 2 ^ (scr r).toNat) a
def gst (l : List Int) : Nat := gstF 0 l
theorem gst_snoc (l : List Int) (x : Int) : gst (l ++ [x]) = gst l ||| 2 ^ (scr x).toNat := by unfold gst gstF; rw [List.foldl_append]; rfl
theorem gstF_lt : ∀ (l : List Int) (a : Nat), a < 4096 → gstF a l < 4096
  | [], a, h => h
  | x :: l, a, h => by
    have hb := scr_bd x
    have hp : 2 ^ (scr x).toNat < 2 ^ 12 := Nat.pow_lt_pow_right (by decide) (by omega)
    exact gstF_lt l _ (Nat.or_lt_two_pow (n := 12) h hp)
theorem gst_lt (l : List Int) : gst l < 4096 := gstF_lt l 0 (by decide)
theorem gstF_bit : ∀ (l : List Int) (a j : Nat), (gstF a l).testBit j = (a.testBit j || l.any (fun r => decide ((scr r).toNat = j)))
  | [], a, j => by simp [gstF]
  | x :: l, a, j => by
    have ih := gstF_bit l (a ||| 2 ^ (scr x).toNat) j
    unfold gstF at ih ⊢
    rw [List.foldl_cons, ih, Nat.testBit_or, Nat.testBit_two_pow, List.any_cons, Bool.or_assoc]
theorem gst_bit (l : List Int) (x : Int) (h0 : 0 ≤ x) : (gst l).testBit x.toNat = hasS l x := by
  unfold gst hasS
  rw [gstF_bit, Nat.zero_testBit, Bool.false_or]
  congr 1
  funext r
  have := scr_bd r
  exact decide_eq_decide.2 ⟨fun h => by omega, fun h => by omega⟩
/-- The scripts that a number tells. -/
def lst (g : Nat) : List Int := nums.filter (fun x => g.testBit x.toNat)
theorem scs_gst (l : List Int) : scs l = lst (gst l) := by
  unfold scs lst
  apply List.filter_congr
  intro x hx
  rw [gst_bit l x (by have := nums_bd x hx; omega)]
/-- Without the two that go with any. -/
def gth (l : List Int) : Nat := gst l / 4 * 4
theorem lst_four2 : ∀ a b : Fin 64, lst ((a.val * 64 + b.val) / 4 * 4) = lst (a.val * 64 + b.val) := by decide +kernel
theorem lst_four (g : Nat) (h : g < 4096) : lst (g / 4 * 4) = lst g := by
  have := lst_four2 ⟨g / 64, by omega⟩ ⟨g % 64, by omega⟩
  simp only at this
  rwa [show g / 64 * 64 + g % 64 = g by omega] at this
theorem scs_gth (l : List Int) : scs l = lst (gth l) := by
  rw [scs_gst]; exact (lst_four (gst l) (gst_lt l)).symm
theorem gth_lt (l : List Int) : gth l < 4096 := by have := gst_lt l; unfold gth; omega
theorem gth_low (l : List Int) : gth l % 4 = 0 := by unfold gth; omega
theorem andnot32 : ∀ a b : Fin 64, bits .andNot .u16 ((a.val * 64 + b.val : Nat) : Int) 3 = (((a.val * 64 + b.val) / 4 * 4 : Nat) : Int) := by decide +kernel
theorem andnot3 (g : Nat) (h : g < 4096) : bits .andNot .u16 (g : Int) 3 = ((g / 4 * 4 : Nat) : Int) := by
  have := andnot32 ⟨g / 64, by omega⟩ ⟨g % 64, by omega⟩
  simp only at this
  rwa [show g / 64 * 64 + g % 64 = g by omega] at this
theorem wrap_u16 (n : Int) : IntKind.u16.wrap n = n % 65536 := by simp [IntKind.wrap, IntKind.bits, IntKind.signed]
theorem or_step (g : Nat) (hg : g < 4096) (z : Int) (h0 : 0 ≤ z) (h1 : z ≤ 11) : bits .or .u16 (g : Int) (IntKind.u16.wrap (2 ^ z.toNat)) = ((g ||| 2 ^ z.toNat : Nat) : Int) := by
  have hp : 2 ^ z.toNat < 2 ^ 12 := Nat.pow_lt_pow_right (by decide) (by omega)
  have e3 : (2 ^ z.toNat : Int) = ((2 ^ z.toNat : Nat) : Int) := by simp
  have e2 : IntKind.u16.wrap (2 ^ z.toNat) = ((2 ^ z.toNat : Nat) : Int) := by
    rw [wrap_u16, e3]
    have hp' : 2 ^ z.toNat < 4096 := hp
    generalize 2 ^ z.toNat = p at hp'
    omega
  rw [e2]
  exact (bits_nat .u16 12 (by decide) (fun n h0 h1 => by rw [wrap_u16]; omega) g _ hg hp).2

/-! ### skel.gathered -/
set_option maxRecDepth 100000 in
set_option maxHeartbeats 4000000 in
theorem gathered_any (v : Value) (L : List Int) (w : World) (hlen : L.length ≤ 10000) (hv : U.IntsAt w v L) :
    Calls Tryd.prog 25 #[v] w fun e W' => e = .returned (.int .u16 (gth L : Nat)) ∧ Below w.heap.size w W' := by
  obtain ⟨a, c, rfl, hf⟩ := ints_form hv
  have HF := hid hf
  obtain ⟨n, hn⟩ : ∃ n, L.length = n := ⟨_, rfl⟩
  have HN := hid hn
  rw [hn] at hlen HF ⊢
  clear hv hf hn
  go_enter Tryd.func25, Tryd.ntmps25
  go_wp2_with fail
  go_loopw [3, 8] (fun v3 v8 wr => ∃ k g : Nat, k ≤ n ∧ v3 = .int .u16 g ∧ v8 = .int .i64 k ∧ Hid (g = gst (L.take k)) ∧ Hid (Below w.heap.size w wr)) (fun _ v8 _ => n - (intOf v8).toNat)
  case atStart => exact ⟨0, 0, Nat.zero_le _, rfl, rfl, rfl, Below.refl _ _⟩
  case round =>
    obtain ⟨k, g, hk, rfl, rfl, HG, HB⟩ := hrel
    have hg : g < 4096 := by rw [HG.out]; exact gst_lt _
    by_cases hlt : k < n
    · obtain ⟨b, off, rfl, hck⟩ := cell_at HF.out HB.out k hlt
      have HS : Hid (gst (L.take (k + 1)) = g ||| 2 ^ (scr (L[k]?.getD 0)).toNat) := by
        show _ = _
        rw [take_one L k (by rw [HN.out]; exact hlt), gst_snoc, ← HG.out]
      have HC : Hid (∀ W, Calls Tryd.prog 42 #[.int .i32 (L[k]?.getD 0)] W fun e W' => e = .returned (.int .u8 (scr (L[k]?.getD 0))) ∧ Below W.heap.size W W') := fun W => D.script_any (L[k]?.getD 0) W
      obtain ⟨hz0, hz1⟩ := scr_bd (L[k]?.getD 0)
      obtain ⟨z, hz⟩ : ∃ z, scr (L[k]?.getD 0) = z := ⟨_, rfl⟩
      rw [hz] at HS HC hz0 hz1
      obtain ⟨y, hy⟩ : ∃ y, L[k]?.getD 0 = y := ⟨_, rfl⟩
      rw [hy] at hck HC
      have HO := hid (or_step g hg z hz0 hz1)
      clear hy hz
      go_wp2_with (go_at_call 42; refine (HC.out _).mono ?_; rintro e w2 ⟨rfl, B2⟩; have HB2 := hid (HB.out.trans (B2.mono HB.out.size)); clear B2)
      go_roundw
      case rel => exact ⟨k + 1, _, by omega, by rw [← HO.out], by go_num, HS.out.symm, HB2⟩
      case measure => simp [intOf]; omega
    · have HT : Hid (gst (L.take k) = gst L) := by show _ = _; rw [List.take_of_length_le (by rw [HN.out]; omega)]
      have HA := hid (andnot3 g hg)
      go_wp2
      go_ret
      refine ⟨U.ret_int ?_, HB.out⟩
      rw [HA.out, HG.out, HT.out]; rfl
end Go.Proofs.YtpkegjbmnilmdaaDoor.S
/- How  many scripts a number tells; skel.Level. -/
namespace Go.Proofs.YtpkegjbmnilmdaaDoor.S
open Go.RowKit
set_option linter.unusedVariables false

/-! ### Plain -/
theorem mix_four : ∀ g : Fin 1024, mix (lst (g.val * 4)) = if (lst (g.val * 4)).length ≤ 1 then 2 else if bits .andNot .u16 ((g.val * 4 : Nat) : Int) 1796 = 0 then 3 else if (lst (g.val * 4)).length = 2 ∧ bits .and .u16 ((g.val * 4 : Nat) : Int) 4 ≠ 0 ∧ bits .and .u16 ((g.val * 4 : Nat) : Int) 24 = 0 then 4 else 5 := by decide +kernel
def hi8 (r : Int) : Bool := decide (128 ≤ r)
theorem asc_hi (l : List Int) : asc l = !(l.any hi8) := by
  induction l with
  | nil => rfl
  | cons c l ih =>
    rw [asc_cons, List.any_cons, ih, Bool.not_or]
    congr 1
    unfold hi8
    rw [Bool.eq_iff_iff]; simp
theorem any_no {p : Int → Bool} {L : List Int} (h : ∀ j, j < L.length → p (L[j]?.getD 0) = false) : L.any p = false := by
  rw [Bool.eq_false_iff]
  intro hc
  obtain ⟨x, hx, hp⟩ := List.any_eq_true.1 hc
  obtain ⟨j, hj, rfl⟩ := List.mem_iff_getElem.1 hx
  have := h j hj
  rw [List.getElem?_eq_getElem hj] at this
  exact absurd hp (by simpa using this)
theorem any_yes {p : Int → Bool} {L : List Int} (j : Nat) (hj : j < L.length) (h : p (L[j]?.getD 0) = true) : L.any p = true := by
  rw [List.getElem?_eq_getElem hj] at h
  exact List.any_eq_true.2 ⟨_, List.getElem_mem hj, h⟩
/-- What a search answers. -/
def IdxR (b : Bool) (e : Ending) : Prop := ∃ k : Int, e = .returned (.int .i64 k) ∧ -1 ≤ k ∧ k ≤ 100000 ∧ decide (0 ≤ k) = b

/-! ### The search for what is not ASCII -/
set_option maxRecDepth 100000 in
set_option maxHeartbeats 1000000 in
theorem hi_any (r : Int) (w : World) : Calls Tryd.prog 34 #[.int .i32 r] w fun e W' => e = .returned (.bool (hi8 r)) ∧ W' = w := by
  go_enter Tryd.func34, Tryd.ntmps34
  go_wp2
  go_ret
  exact ⟨rfl, rfl⟩
set_option maxRecDepth 100000 in
set_option maxHeartbeats 2000000 in
theorem indexHi_any (v : Value) (l : List Int) (w : World) (hlen : l.length ≤ 100000) (hv : U.IntsAt w v l) :
    Calls Tryd.prog 51 #[v, .func (.func 34) #[] #[]] w fun e W' => IdxR (l.any hi8) e ∧ W' = w := by
  obtain ⟨a, c, rfl, hf⟩ := ints_form hv
  have HF := hid hf
  have HNO := hid (any_no (p := hi8) (L := l))
  have HYES := hid (any_yes (p := hi8) (L := l))
  obtain ⟨n, hn⟩ : ∃ n, l.length = n := ⟨_, rfl⟩
  rw [hn] at hlen HF HNO HYES ⊢
  obtain ⟨R, hR⟩ : ∃ R, l.any hi8 = R := ⟨_, rfl⟩
  rw [hR] at HNO HYES ⊢
  clear hv hf hn hR
  go_enter Tryd.func51, Tryd.ntmps51
  go_wp2_with fail
  go_loop [8] (fun v8 => ∃ k : Nat, k ≤ n ∧ v8 = .int .i64 k ∧ Hid (∀ j, j < k → hi8 (l[j]?.getD 0) = false)) (fun v8 => n - (intOf v8).toNat)
  case atStart => exact ⟨0, Nat.zero_le _, rfl, (fun j hj => by omega)⟩
  case round =>
    obtain ⟨k, hk, rfl, HA⟩ := hrel
    by_cases hlt : k < n
    · obtain ⟨b, off, rfl, hck⟩ := cell_at HF.out (Below.refl _ _) k hlt
      have HX := hid (HYES.out k hlt)
      have HS : Hid (hi8 (l[k]?.getD 0) = false → ∀ j, j < k + 1 → hi8 (l[j]?.getD 0) = false) := fun h j hj => by
        by_cases e : j = k
        · rw [e]; exact h
        · exact HA.out j (by omega)
      have HC := hid (hi_any (l[k]?.getD 0) w)
      obtain ⟨t, ht⟩ : ∃ t, hi8 (l[k]?.getD 0) = t := ⟨_, rfl⟩
      rw [ht] at HX HS HC
      obtain ⟨y, hy⟩ : ∃ y, l[k]?.getD 0 = y := ⟨_, rfl⟩
      rw [hy] at hck HC
      clear hy ht
      cases t with
      | true =>
        have HR := hid (HX.out rfl)
        go_wp2_with (go_at_call 34; refine HC.out.mono ?_; rintro e w1 ⟨rfl, hw1⟩; obtain rfl := hw1.symm)
        go_ret
        exact ⟨⟨k, rfl, by omega, by omega, by rw [HR.out]; exact decide_eq_true (by omega)⟩, rfl⟩
      | false =>
        have HR := hid (HS.out rfl)
        go_wp2_with (go_at_call 34; refine HC.out.mono ?_; rintro e w1 ⟨rfl, hw1⟩; obtain rfl := hw1.symm)
        exact ⟨⟨k + 1, by omega, by go_num, HR⟩, by simp [intOf]; omega⟩
    · have HR := hid (HNO.out (fun j hj => HA.out j (by omega)))
      go_wp2
      go_ret
      exact ⟨⟨-1, rfl, by omega, by omega, by rw [HR.out]; rfl⟩, rfl⟩
set_option maxRecDepth 100000 in
set_option maxHeartbeats 2000000 in
theorem containsHi_any (v : Value) (l : List Int) (w : World) (hlen : l.length ≤ 100000) (hv : U.IntsAt w v l) :
    Calls Tryd.prog 33 #[v, .func (.func 34) #[] #[]] w fun e W' => e = .returned (.bool (l.any hi8)) ∧ W' = w := by
  have HC := hid (indexHi_any v l w hlen hv)
  obtain ⟨a, c, rfl, -⟩ := ints_form hv
  obtain ⟨n, hn⟩ : ∃ n, l.length = n := ⟨_, rfl⟩
  rw [hn] at HC ⊢
  obtain ⟨A, hA⟩ : ∃ A, l.any hi8 = A := ⟨_, rfl⟩
  rw [hA] at HC ⊢
  clear hv hn hA
  go_enter Tryd.func33, Tryd.ntmps33
  go_wp2_with fail
  refine HC.out.mono ?_
  rintro e w1 ⟨⟨k, rfl, h1, h2, h3⟩, rfl⟩
  have H3 := hid h3
  clear h3
  go_wp2
  go_ret
  exact ⟨by rw [← H3.out]; rfl, rfl⟩
/-! ### How many -/
theorem fold_pop : (⟨((List.append ([0, 1, 1, 2, 1, 2, 2, 3, 1, 2, 2, 3, 2, 3, 3, 4, 1, 2, 2, 3, 2, 3, 3, 4, 2, 3, 3, 4, 3, 4, 4, 5, 1, 2, 2, 3, 2, 3, 3, 4, 2, 3, 3, 4, 3, 4, 4, 5, 2, 3, 3, 4, 3, 4, 4, 5, 3, 4, 4, 5, 4, 5, 5, 6] : List UInt8) [1, 2, 2, 3, 2, 3, 3, 4, 2, 3, 3, 4, 3, 4, 4, 5, 2, 3, 3, 4, 3, 4, 4, 5, 3, 4, 4, 5, 4, 5, 5, 6, 2, 3, 3, 4, 3, 4, 4, 5, 3, 4, 4, 5, 4, 5, 5, 6, 3, 4, 4, 5, 4, 5, 5, 6, 4, 5, 5, 6, 5, 6, 6, 7]).append (List.append ([1, 2, 2, 3, 2, 3, 3, 4, 2, 3, 3, 4, 3, 4, 4, 5, 2, 3, 3, 4, 3, 4, 4, 5, 3, 4, 4, 5, 4, 5, 5, 6, 2, 3, 3, 4, 3, 4, 4, 5, 3, 4, 4, 5, 4, 5, 5, 6, 3, 4, 4, 5, 4, 5, 5, 6, 4, 5, 5, 6, 5, 6, 6, 7] : List UInt8) [2, 3, 3, 4, 3, 4, 4, 5, 3, 4, 4, 5, 4, 5, 5, 6, 3, 4, 4, 5, 4, 5, 5, 6, 4, 5, 5, 6, 5, 6, 6, 7, 3, 4, 4, 5, 4, 5, 5, 6, 4, 5, 5, 6, 5, 6, 6, 7, 4, 5, 5, 6, 5, 6, 6, 7, 5, 6, 6, 7, 6, 7, 7, 8])).toArray⟩ : ByteArray) = Lib.pop8tab := by kernel_rfl
theorem pop_cnt : ∀ a : Fin 16, ∀ b : Fin 64, Lib.pop8 a.val + Lib.pop8 (b.val * 4 : Nat) = ((lst (a.val * 256 + b.val * 4)).length : Int) := by decide +kernel
theorem pop_bd : ∀ a : Fin 256, 0 ≤ Lib.pop8 a.val ∧ Lib.pop8 a.val ≤ 8 := by decide +kernel
set_option maxRecDepth 100000 in
set_option maxHeartbeats 2000000 in
theorem ones_any (g : Nat) (hg : g < 4096) (h4 : g % 4 = 0) (w : World) : Calls Tryd.prog 52 #[.int .u16 g] w fun e W' => e = .returned (.int .i64 (lst g).length) ∧ Below w.heap.size w W' := by
  have e1 : bits .and .u16 (g : Int) 255 = ((g % 256 : Nat) : Int) := by
    have := bits_mask .u16 12 (by decide) (fun n h0 h1 => by rw [wrap_u16]; omega) 8 (by decide) (g : Int) (by omega) (by omega)
    simpa using this
  have p1 := pop_bd ⟨g / 256, by omega⟩
  have p2 := pop_bd ⟨g % 256, by omega⟩
  have p3 := pop_cnt ⟨g / 256, by omega⟩ ⟨g % 256 / 4, by omega⟩
  simp only at p1 p2 p3
  rw [show g % 256 / 4 * 4 = g % 256 by omega, show g / 256 * 256 + g % 256 = g by omega] at p3
  have e4 : ((g / 256 : Nat) : Int) = (g : Int) / 256 := by omega
  rw [e4] at p1 p3
  have b1 : ((g % 256 : Nat) : Int) ≤ 255 := by omega
  have b2 : (g : Int) / 256 ≤ 255 := by omega
  have b3 : 0 ≤ (g : Int) / 256 := by omega
  have hfp := fold_pop
  go_enter Tryd.func52, Tryd.ntmps52
  go_wp2
  go_quiet (fail)
  go_wp2
  go_ret
  have e5 : ((g % 256 : Nat) : Int) = (g : Int) % 256 := by omega
  rw [e5] at p2 p3
  refine ⟨U.ret_int (by omega), D.below_drewN (Below.refl _ _) _⟩
set_option maxRecDepth 100000 in
set_option maxHeartbeats 2000000 in
theorem count_any (g : Nat) (hg : g < 4096) (h4 : g % 4 = 0) (w : World) : Calls Tryd.prog 35 #[.int .u16 g] w fun e W' => e = .returned (.int .i64 (lst g).length) ∧ Below w.heap.size w W' := by
  have HC := hid (ones_any g hg h4 w)
  obtain ⟨n, hn⟩ : ∃ n, (lst g).length = n := ⟨_, rfl⟩
  rw [hn] at HC ⊢
  clear hn
  go_enter Tryd.func35, Tryd.ntmps35
  go_wp2_with fail
  refine HC.out.mono ?_
  rintro e w1 ⟨rfl, B1⟩
  go_wp2
  go_ret
  exact ⟨rfl, B1⟩

end Go.Proofs.YtpkegjbmnilmdaaDoor.S
