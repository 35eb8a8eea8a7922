/- The program's Encode; what the walks want of the program stands (ctr). -/
import Derived.Test.YtnkbfpmaifgenaaHB
import Derived.Test.YtnkbfpmaifgenaaHE
import Derived.Test.YtnkbfpmaifgenaaUK
import Derived.Test.YtnkbfpmaifgenaaEG
import Derived.Lib.AppendStr
namespace Go.Proofs.Ytnkbfpmaifgenaa.E
open Go.RowKit
set_option linter.unusedVariables false

/-! ### Plain: where a code point's bytes stand -/
def pos (L : List Int) (j : Nat) : Nat := (U.encs (L.take j)).length
theorem encs_app (a b : List Int) : U.encs (a ++ b) = U.encs a ++ U.encs b := List.flatMap_append
theorem encs_cons (c : Int) (l : List Int) : U.encs (c :: l) = U.enc c ++ U.encs l := List.flatMap_cons
theorem encs_drop (L : List Int) (j : Nat) : (U.encs L).drop (pos L j) = U.encs (L.drop j) := by
  have e : U.encs L = U.encs (L.take j) ++ U.encs (L.drop j) := by rw [← encs_app, List.take_append_drop]
  unfold pos
  rw [e, List.drop_left]
theorem drop_cons (L : List Int) (j : Nat) (h : j < L.length) : L.drop j = L[j] :: L.drop (j + 1) := List.drop_eq_getElem_cons h
theorem take_snoc (L : List Int) (j : Nat) (h : j < L.length) : L.take (j + 1) = L.take j ++ [L[j]] := List.take_succ_eq_append_getElem h
theorem pos_next (L : List Int) (j : Nat) (h : j < L.length) : pos L (j + 1) = pos L j + (U.enc L[j]).length := by
  unfold pos
  rw [take_snoc L j h, U.encs_snoc, List.length_append]
theorem pos_all (L : List Int) : pos L L.length = (U.encs L).length := by unfold pos; rw [List.take_length]
theorem pos_le (L : List Int) (j : Nat) : pos L j ≤ (U.encs L).length := by
  have e : U.encs L = U.encs (L.take j) ++ U.encs (L.drop j) := by rw [← encs_app, List.take_append_drop]
  unfold pos
  rw [e, List.length_append]; omega
theorem bn_cut (t : ByteArray) (a b : Nat) : U.bn (t.extract a b) = ((U.bn t).drop a).take (b - a) := by
  unfold U.bn
  rw [ByteArray.data_extract, Array.toList_extract, List.map_take, List.map_drop]
theorem round_facts {L : List Int} {t : ByteArray} (hb : U.bn t = U.encs L) (hs : ∀ c ∈ L, U.scal c = true) (k : Nat) {j : Nat} (hj : j < L.length) :
    ∃ c : Int, U.scal c = true ∧ U.nx (U.bn (t.extract (pos L j) t.size)) = (c, (U.enc c).length, true) ∧ pos L (j + 1) = pos L j + (U.enc c).length ∧ pos L (j + 1) ≤ t.size ∧ U.bn (t.extract (pos L j) (pos L j + (U.enc c).length)) = U.enc c ∧ en k (L.take (j + 1)) = en k (L.take j) ++ tok k c := by
  have hc : U.scal L[j] = true := hs _ (List.getElem_mem hj)
  refine ⟨L[j], hc, ?_, pos_next L j hj, ?_, ?_, ?_⟩
  · rw [U.bn_extract, hb, encs_drop, drop_cons L j hj, encs_cons]
    exact U.nx_enc _ hc _
  · rw [← U.bn_length, hb]; exact pos_le L _
  · rw [bn_cut, hb, encs_drop, drop_cons L j hj, encs_cons, Nat.add_sub_cancel_left, List.take_left]
  · rw [take_snoc L j hj, en_snoc]
theorem strCells_bn (u : ByteArray) : Lib.strCells u = (U.bn u).map (Value.int .u8) := by
  unfold Lib.strCells U.bn
  rw [List.map_map]; rfl
theorem tok_yes {k : Nat} {c : Int} (h : inS c k = true) : tok k c = (U.enc c).flatMap pe := by unfold tok; rw [if_pos h]
theorem tok_no {k : Nat} {c : Int} (h : inS c k = false) : tok k c = U.enc c := by unfold tok; rw [if_neg (by rw [h]; decide)]
set_option maxRecDepth 100000 in
set_option maxHeartbeats 4000000 in
theorem pencode_any (s : ByteArray) (k : Nat) (w : World) (hs : s.size ≤ 100000) (hk : k ≤ 255) :
    Calls Try.prog 9 #[.string s, .int .u8 k] w fun e W' => EncR k (U.dec (U.bn s)) w e W' := by
  obtain ⟨i0, hi, hz0, hz1, hz2⟩ := info_parts U.Try.info5
  have HCL := hid (U.clean_any s (by omega) w)
  have hdl := U.dec_len (U.bn s).length (U.bn s) (Nat.le_refl _) (U.bn_bytes s)
  rw [U.bn_length] at hdl
  have HSC := hid (dec_scs s)
  obtain ⟨L, hL⟩ : ∃ L, U.dec (U.bn s) = L := ⟨_, rfl⟩
  rw [hL] at HCL hdl HSC ⊢
  have hel := U.encs_len L
  obtain ⟨n, hn⟩ : ∃ n, L.length = n := ⟨_, rfl⟩
  have HN := hid hn
  rw [hn] at hdl hel
  have HGS : Hid (∀ e W, ((∃ t, e = .returned (.string t) ∧ U.bn t = en k L) ∧ Below w.heap.size w W) → EncR k L w e W) := fun e W h => h
  clear hL hn
  go_enter Try.func9, Try.ntmps9
  go_wp2_with fail
  refine HCL.out.mono ?_
  rintro e w1 ⟨⟨t, rfl, ht⟩, B1⟩
  have HT := hid ht
  have hts : t.size ≤ 400000 := by
    have := congrArg List.length ht
    rw [U.bn_length] at this
    omega
  have HRF : Hid (∀ j, j < n → _) := fun j (h : j < n) => round_facts ht HSC.out k (j := j) (by rw [HN.out]; exact h)
  have HPA : Hid (pos L n = t.size) := by show _ = _; rw [← HN.out, pos_all, ← ht, U.bn_length]
  have HB1 := hid B1
  have z1 := B1.size
  clear ht B1 HCL hel
  go_wp2_with fail
  go_loopw [6, 7] (fun v6 v7 wr => ∃ (j p m c : Nat) (a : Option Addr), j ≤ n ∧ p ≤ t.size ∧ m ≤ 12 * j ∧ v6 = .slice a m c ∧ v7 = .int .i64 p ∧ Hid (p = pos L j) ∧ Hid (m = (en k (L.take j)).length) ∧ Hid (wr.ownsRow w1.heap.size 5 1 (.slice a m c) m ((en k (L.take j)).map (Value.int .u8))) ∧ Hid (Below w1.heap.size w1 wr)) (fun _ v7 _ => t.size - (intOf v7).toNat)
  case atStart => exact ⟨0, 0, 0, 0, none, Nat.zero_le _, Nat.zero_le _, Nat.le_refl _, rfl, rfl, rfl, rfl, World.ownsRow_nil _ _ _ _, Below.refl _ _⟩
  case round =>
    obtain ⟨j, p, m, c, a, hj, hp, hm, rfl, rfl, HP, HM, HR, HB⟩ := hrel
    by_cases hlt : p < t.size
    · have hjn : j < n := by
        by_cases e : j = n
        · have h1 := HP.out
          rw [e, HPA.out] at h1
          omega
        · omega
      obtain ⟨x, hx, hnx, hpn, hpt, hcut, hst⟩ := HRF.out j hjn
      rw [← HP.out] at hnx hpn hcut
      have hel := U.enc_len x
      have hxb := scal_bd hx
      have HIN := hid (fun W => pin_any x k W hx)
      have HNX : Hid (∀ W, Calls Try.prog 17 #[.string (t.extract p t.size)] W fun e W' => e = .returned (.tuple #[.int .i32 x, .int .i64 (U.enc x).length, .bool true]) ∧ ∃ q, W' = W.drewN q) := fun W => (U.next_any (t.extract p t.size) W (by simp; omega)).mono (by
        rintro e W' ⟨rfl, h⟩
        rw [hnx]
        exact ⟨rfl, h⟩)
      obtain ⟨q, hq⟩ : ∃ q, inS x k = q := ⟨_, rfl⟩
      have HTY : Hid (q = true → tok k x = (U.enc x).flatMap pe) := fun h => tok_yes (hq.trans h)
      have HTN : Hid (q = false → tok k x = U.enc x) := fun h => tok_no (hq.trans h)
      rw [hq] at HIN
      obtain ⟨E, hE⟩ : ∃ E, U.enc x = E := ⟨_, rfl⟩
      rw [hE] at hpn hcut hel HNX HTY HTN
      obtain ⟨l, hl⟩ : ∃ l, E.length = l := ⟨_, rfl⟩
      rw [hl] at hpn hcut hel HNX
      have HCUT := hid hcut
      have HST := hid hst
      have HPN := hid hpn
      have HEL := hid hl
      have hpl : p + l ≤ t.size := by omega
      obtain ⟨u, hu⟩ : ∃ u, t.extract p (p + l) = u := ⟨_, rfl⟩
      have hus : u.size = l := by rw [← hu]; simp; omega
      rw [hu] at HCUT
      have hplz : (p : Int) + (l : Int) ≤ (t.size : Int) := by omega
      have zr := HB.out.size
      obtain ⟨Y, hY⟩ : ∃ Y, en k (L.take j) = Y := ⟨_, rfl⟩
      rw [hY] at HST HM HR
      have hm2 : m ≤ 2000000 := by omega
      clear hx hnx hpn hpt hcut hst hq hE hl hY hxb HRF
      go_wp2_with fail
      refine (HNX.out _).mono ?_
      rintro e w2 ⟨rfl, nq, hw2⟩
      have HB2 : Hid (Below w1.heap.size w1 w2) := by rw [hw2]; exact HB.out.trans ((U.below_drewN _ _ _).mono (Nat.le_refl _))
      have HR2 : Hid (w2.ownsRow w1.heap.size 5 1 (.slice a m c) m (Y.map (Value.int .u8))) := U.ownsRow_below HR.out (B := wr.heap.size) (by rw [hw2]; exact U.below_drewN _ _ _) (Nat.le_refl _)
      clear hw2 HNX HB HR
      go_wp2_with fail
      refine (HIN.out _).mono ?_
      rintro e w3 ⟨rfl, B3⟩
      have HB3 := hid (HB2.out.trans (B3.mono HB2.out.size))
      have HR3 := hid (U.ownsRow_below HR2.out B3 (Nat.le_refl _))
      have z3 := HB3.out.size
      clear B3 HIN HB2 HR2
      cases q with
      | true =>
        have HTK := hid (HTY.out rfl)
        have HTO := hid (told_any w1.heap.size a m c Y u w3 HM.out HR3.out z3 (by omega) (by omega))
        have HZ : Hid (Y ++ (U.bn u).flatMap pe = en k (L.take (j + 1))) := by show _ = _; rw [HST.out, HTK.out, HCUT.out]
        have hzl : (Y ++ (U.bn u).flatMap pe).length = m + 3 * l := by rw [List.length_append, pes_len, U.bn_length, hus, HM.out]
        have HZL := hid hzl
        obtain ⟨Z, hZ⟩ : ∃ Z, Y ++ (U.bn u).flatMap pe = Z := ⟨_, rfl⟩
        rw [hZ] at HTO HZ hzl HZL
        unfold ToldR at HTO
        rw [hzl] at HTO
        clear HTY HTN hZ hzl
        go_wp2_with fail
        refine HTO.out.mono ?_
        rintro e w4 ⟨a4, c4, rfl, r4, B4⟩
        have HR4 := hid r4
        have HB4 := hid (HB3.out.trans B4)
        clear r4 B4 HTO
        go_wp2_with fail
        go_roundw
        case rel =>
          refine ⟨j + 1, p + l, m + 3 * l, c4, a4, by omega, by omega, by omega, rfl, by go_num, HPN.out.symm, ?_, ?_, HB4⟩
          · show _ = _
            rw [← HZ.out, HZL.out]
          · show World.ownsRow _ _ _ _ _ _ _
            rw [← HZ.out]; exact HR4.out
        case measure => simp [intOf]; omega
      | false =>
        have HTK := hid (HTN.out rfl)
        have HZ : Hid (en k (L.take (j + 1)) = Y ++ U.bn u) := by show _ = _; rw [HST.out, HTK.out, HCUT.out]
        have HUS := hid hus
        clear HTY HTN
        go_wp2_with (at_builtin; refine Lib.wpList_append_own_string _ rfl _ _ 37 9 rfl w1.heap.size 5 i0 Try.underlying37 Try.underlying9 hi hz0 hz1 hz2 _ _ _ rfl HR3.out u (congrArg Value.string hu) (by unfold maxLen; omega) (by omega) z3 ?_; intro v4 w4 r4 g4 _; obtain ⟨a4, c4, rfl⟩ := own_sh5 r4)
        rw [HUS.out] at r4
        have HR4 := hid r4
        have HB4 := hid (U.below_grow HB3.out z3 HR3.out g4)
        clear r4 g4
        go_wp2_with fail
        go_roundw
        case rel =>
          refine ⟨j + 1, p + l, m + l, c4, a4, by omega, by omega, by omega, rfl, by go_num, HPN.out.symm, ?_, ?_, HB4⟩
          · show _ = _
            rw [HZ.out, List.length_append, ← HM.out, U.bn_length, HUS.out]
          · show World.ownsRow _ _ _ _ _ _ _
            rw [HZ.out, List.map_append, ← strCells_bn]; exact HR4.out
        case measure => simp [intOf]; omega
    · obtain rfl : p = t.size := by omega
      have hjn : j = n := by
        by_cases e : j = n
        · exact e
        · exfalso
          obtain ⟨x, hx, hnx, hpn, hpt, hcut, hst⟩ := HRF.out j (by omega)
          rw [← HP.out] at hpn
          have := U.enc_len x
          omega
      have ht : L.take j = L := List.take_of_length_le (by rw [HN.out]; omega)
      rw [ht] at HM HR
      have HBW := hid (HB1.out.trans (HB.out.mono z1))
      obtain ⟨r, hcv, htb⟩ := U.conv_string wr w1.heap.size _ _ (en k L) HM.out (en_bytes HSC.out) HR.out
      have HTB := hid htb
      clear ht htb HM HR hjn
      go_wp2
      go_ret
      exact HGS.out _ _ ⟨⟨r, rfl, HTB.out⟩, HBW.out⟩
theorem ctr : Ctr := ⟨fun r k w hr _ => pin_any r k w hr, pencode_any, pdecode_any⟩
end Go.Proofs.Ytnkbfpmaifgenaa.E
