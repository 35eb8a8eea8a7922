/- The walk of UtfBack: it returns true, whatever code points and whatever bytes. -/
import Derived.Test.YtfjfhfolikgajaaH
namespace Go.Proofs.Ytfjfhfolikgajaa
open Go.RowKit

theorem str_ne {s t : ByteArray} (h : s ≠ t) : (s.toList == t.toList) = false := by
  rw [beq_eq_false_iff_ne]
  intro hh
  apply h
  rw [ByteArray.toList_eq, ByteArray.toList_eq] at hh
  cases s; cases t
  congr 1
  exact Array.toList_inj.1 hh

set_option maxRecDepth 100000 in
set_option maxHeartbeats 4000000 in
theorem back_walk (a : Option Addr) (len cap : Nat) (z : List Int) (s : ByteArray) (w : World) (h0 : IsRow .i32 w a len cap z) (hs : s.size ≤ maxLen) :
    Calls Try.prog 5 #[.slice a len cap, .string s] w fun e w' => e = .returned (.bool true) ∧ Below w.heap.size w w' := by
  have hl := row_max h0
  unfold maxLen at hs hl
  by_cases h1 : 8192 < len
  · go_enter Try.func5, Try.ntmps5
    go_wp2_with fail
    refine (works_any _).mono ?_
    rintro e w' ⟨rfl, hB⟩
    go_wp2
    go_ret
    exact ⟨rfl, hB⟩
  by_cases h2 : 8192 < s.size
  · go_enter Try.func5, Try.ntmps5
    go_wp2_with fail
    refine (works_any _).mono ?_
    rintro e w' ⟨rfl, hB⟩
    go_wp2
    go_ret
    exact ⟨rfl, hB⟩
  have src := row_src h0
  have ints := row_ints h0
  have hzl : (z.take len).length ≤ len := Nat.le_of_eq (row_len h0)
  clear h0
  generalize z.take len = zs at src ints hzl
  have ls := dec_len _ _ (Nat.le_refl _) (bn_bytes s)
  rw [bn_length] at ls
  have DS : Hid ((dec (bn s)).all scal = true) := dec_scal _ _ (Nat.le_refl _) (bn_bytes s)
  go_enter Try.func5, Try.ntmps5
  go_wp2_with (at_builtin; refine wpList_append_ints rfl _ _ rfl w.heap.size _ 0 [] rfl (World.ownsRow_nil _ _ _ _) _ _ rfl src (by omega) (Nat.le_refl _) ?_; intro v1 w1 hr1 hg1)
  have B1 := below_grow (Below.refl w.heap.size w) (Nat.le_refl _) (World.ownsRow_nil w w.heap.size 21 1) hg1
  simp only [Nat.zero_add, List.nil_append] at hr1
  have i1 := IntsAt.own rfl hr1
  clear src hg1 hr1
  refine (encode_any _ _ (by omega) _ i1).mono ?_
  rintro e w2 ⟨⟨t, r, rfl, hR⟩, hB2⟩
  have B2 := B1.trans (hB2.mono B1.size)
  clear i1 B1 hB2
  rcases hR with ⟨hall, rfl, ht⟩ | ⟨hall, rfl, rfl⟩
  · have hbk := back zs hall
    have HD : Hid (dec (bn t) = zs) := by show _ = _; rw [ht]; exact hbk.1
    have HV0 : Hid (val (bn t) = true) := by show _ = _; rw [ht]; exact hbk.2
    have HE : Hid (encs (dec (bn t)) = bn t) := by show _ = _; rw [HD.out, ht]
    have hts : t.size ≤ 32768 := by
      have := encs_len zs; rw [← ht, bn_length] at this; omega
    clear hbk ht hall
    go_wp2_with fail
    refine (decode_any _ (by omega) _).mono ?_
    rw [HD.out]
    rintro e w3 ⟨v3, rfl, hr3, hB3⟩
    have B3 := B2.trans (hB3.mono B2.size)
    have i3 := IntsAt.own rfl hr3
    have il := ints.below B3 (Nat.le_refl _)
    clear hr3 B2 hB3
    go_wp2_with fail
    refine (runes_same _ _ _ (by omega) _ i3 il).mono ?_
    rintro e w4 ⟨rfl, n, rfl⟩
    have B4 := B3.trans (below_drewN w.heap.size w3 n)
    clear i3 il B3
    go_wp2_with fail
    refine (valid_any _ (by omega) _).mono ?_
    rw [HV0.out]
    rintro e w4a ⟨rfl, hB4a⟩
    have B4a := B4.trans (hB4a.mono B4.size)
    clear hB4a B4
    go_wp2_with fail
    refine (clean_any _ (by omega) _).mono ?_
    rintro e w4b ⟨⟨t2, rfl, ht2⟩, hB4b⟩
    have B := B4a.trans (hB4b.mono B4a.size)
    obtain rfl : t2 = t := bn_inj (ht2.trans HE.out)
    clear ht2 HE HV0 HD hB4b B4a ints
    go_wp2_with fail
    refine (clean_any _ (by omega) _).mono ?_
    rintro e w5 ⟨⟨c, rfl, hc⟩, hB5⟩
    have B5 := B.trans (hB5.mono B.size)
    have HC : Hid (bn c = encs (dec (bn s))) := hc
    clear hc B hB5
    have hcs : c.size ≤ 32768 := by
      have := encs_len (dec (bn s)); rw [← HC.out, bn_length] at this; omega
    go_wp2_with fail
    refine (decode_any _ (by omega) _).mono ?_
    rintro e w6 ⟨v6, rfl, hr6, hB6⟩
    have B6 := B5.trans (hB6.mono B5.size)
    have i6 := IntsAt.own rfl hr6
    clear hr6 B5 hB6
    go_wp2_with fail
    refine (encode_any _ _ (by omega) _ i6).mono ?_
    rintro e w7 ⟨⟨u, r2, rfl, hR2⟩, hB7⟩
    have B7 := B6.trans (hB7.mono B6.size)
    clear B6 hB7 i6
    rcases hR2 with ⟨_, rfl, hu⟩ | ⟨hf, _⟩
    · obtain rfl : u = c := bn_inj (hu.trans HC.out.symm)
      clear hu
      have HV : Hid (val (bn u) = true) := by show _ = _; rw [HC.out]; exact (back _ DS.out).2
      have HK : Hid (encs (dec (bn u)) = bn u) := by show _ = _; rw [HC.out, (back _ DS.out).1]
      go_wp2_with fail
      refine (valid_any _ (by omega) _).mono ?_
      rw [HV.out]
      rintro e w8 ⟨rfl, hB8⟩
      have B8 := B7.trans (hB8.mono B7.size)
      clear B7 hB8
      go_wp2_with fail
      refine (clean_any _ (by omega) _).mono ?_
      rintro e w9 ⟨⟨u2, rfl, hu2⟩, hB9⟩
      have B9 := B8.trans (hB9.mono B8.size)
      clear B8 hB9
      obtain rfl : u2 = u := bn_inj (hu2.trans HK.out)
      clear hu2
      go_wp2_with fail
      refine (valid_any _ (by omega) _).mono ?_
      cases hvs : val (bn s) with
      | true =>
        obtain rfl : u2 = s := bn_inj (HC.out.trans (clean_of_val _ _ (Nat.le_refl _) (bn_bytes s) hvs))
        rintro e w10 ⟨rfl, hB10⟩
        have B10 := B9.trans (hB10.mono B9.size)
        clear hvs HC HV HK DS
        go_wp2_with fail
        refine (works_any _).mono ?_
        rintro e w11 ⟨rfl, hB11⟩
        go_wp2
        go_ret
        exact ⟨rfl, B10.trans (hB11.mono B10.size)⟩
      | false =>
        have hne : (u2.toList == s.toList) = false := str_ne (fun h => by subst h; rw [HV.out] at hvs; cases hvs)
        rintro e w10 ⟨rfl, hB10⟩
        have B10 := B9.trans (hB10.mono B9.size)
        clear hvs HC HV HK DS
        go_wp2_with fail
        refine (works_any _).mono ?_
        rintro e w11 ⟨rfl, hB11⟩
        go_wp2
        go_ret
        exact ⟨rfl, B10.trans (hB11.mono B10.size)⟩
    · rw [DS.out] at hf; cases hf
  · have B := B2
    clear B2 hall ints
    go_wp2_with fail
    refine (clean_any _ (by omega) _).mono ?_
    rintro e w5 ⟨⟨c, rfl, hc⟩, hB5⟩
    have B5 := B.trans (hB5.mono B.size)
    have HC : Hid (bn c = encs (dec (bn s))) := hc
    clear hc B hB5
    have hcs : c.size ≤ 32768 := by
      have := encs_len (dec (bn s)); rw [← HC.out, bn_length] at this; omega
    go_wp2_with fail
    refine (decode_any _ (by omega) _).mono ?_
    rintro e w6 ⟨v6, rfl, hr6, hB6⟩
    have B6 := B5.trans (hB6.mono B5.size)
    have i6 := IntsAt.own rfl hr6
    clear hr6 B5 hB6
    go_wp2_with fail
    refine (encode_any _ _ (by omega) _ i6).mono ?_
    rintro e w7 ⟨⟨u, r2, rfl, hR2⟩, hB7⟩
    have B7 := B6.trans (hB7.mono B6.size)
    clear B6 hB7 i6
    rcases hR2 with ⟨_, rfl, hu⟩ | ⟨hf, _⟩
    · obtain rfl : u = c := bn_inj (hu.trans HC.out.symm)
      clear hu
      have HV : Hid (val (bn u) = true) := by show _ = _; rw [HC.out]; exact (back _ DS.out).2
      have HK : Hid (encs (dec (bn u)) = bn u) := by show _ = _; rw [HC.out, (back _ DS.out).1]
      go_wp2_with fail
      refine (valid_any _ (by omega) _).mono ?_
      rw [HV.out]
      rintro e w8 ⟨rfl, hB8⟩
      have B8 := B7.trans (hB8.mono B7.size)
      clear B7 hB8
      go_wp2_with fail
      refine (clean_any _ (by omega) _).mono ?_
      rintro e w9 ⟨⟨u2, rfl, hu2⟩, hB9⟩
      have B9 := B8.trans (hB9.mono B8.size)
      clear B8 hB9
      obtain rfl : u2 = u := bn_inj (hu2.trans HK.out)
      clear hu2
      go_wp2_with fail
      refine (valid_any _ (by omega) _).mono ?_
      cases hvs : val (bn s) with
      | true =>
        obtain rfl : u2 = s := bn_inj (HC.out.trans (clean_of_val _ _ (Nat.le_refl _) (bn_bytes s) hvs))
        rintro e w10 ⟨rfl, hB10⟩
        have B10 := B9.trans (hB10.mono B9.size)
        clear hvs HC HV HK DS
        go_wp2_with fail
        refine (works_any _).mono ?_
        rintro e w11 ⟨rfl, hB11⟩
        go_wp2
        go_ret
        exact ⟨rfl, B10.trans (hB11.mono B10.size)⟩
      | false =>
        have hne : (u2.toList == s.toList) = false := str_ne (fun h => by subst h; rw [HV.out] at hvs; cases hvs)
        rintro e w10 ⟨rfl, hB10⟩
        have B10 := B9.trans (hB10.mono B9.size)
        clear hvs HC HV HK DS
        go_wp2_with fail
        refine (works_any _).mono ?_
        rintro e w11 ⟨rfl, hB11⟩
        go_wp2
        go_ret
        exact ⟨rfl, B10.trans (hB11.mono B10.size)⟩
    · rw [DS.out] at hf; cases hf
end Go.Proofs.Ytfjfhfolikgajaa
