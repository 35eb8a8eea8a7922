/- The contracts of Order, NFD, NFC, Is and Text. -/
import Derived.Test.YtcgfbejcehiolaaCB
import Derived.Test.YtcgfbejcehiolaaUG
namespace Go.Proofs.Ytcgfbejcehiolaa
open Go.RowKit
set_option linter.unusedVariables false

theorem ord_len (l : List Pt) : (ord l).length = l.length := by
  unfold ord
  rw [List.length_append, (isort_stb _).len]; exact st_len l
/-- In order; taken apart; put together. -/
def ordI (L : List Int) : List Int := (ord (L.map pt)).map (·.1)
def nfdI (L : List Int) : List Int := (ord ((L.flatMap fd).map pt)).map (·.1)
def nfcI (L : List Int) : List Int := (comp (ord ((L.flatMap fd).map pt))).map (·.1)
theorem ordI_len (L : List Int) : (ordI L).length = L.length := by unfold ordI; rw [List.length_map, ord_len, List.length_map]
theorem nfdI_len (L : List Int) : (nfdI L).length ≤ L.length * 3 := by unfold nfdI; rw [List.length_map, ord_len, List.length_map]; exact fds_len L
theorem nfcI_len (L : List Int) : (nfcI L).length ≤ (nfdI L).length := by unfold nfcI nfdI; rw [List.length_map, List.length_map]; exact tst_len _
/-- It answers these numbers, in new memory. -/
def Gives (L : List Int) (w : World) (e : Ending) (W' : World) : Prop := ∃ v, e = .returned v ∧ W'.ownsRow w.heap.size 21 1 v L.length (L.map (Value.int .i32)) ∧ Below w.heap.size w W'
theorem Row21.below {W W' : World} {v : Value} {zs : List Int} (h : Row21 W v zs) (hb : Below W.heap.size W W') : Row21 W' v zs := h.kp (Kp.below (B := 0) hb)
theorem gives_of {L : List Int} {w w1 W' : World} {v : Value} {l : List Pt} (hL : L = l.map (·.1)) (hb : Below w.heap.size w w1) (h : W'.ownsRow w1.heap.size 21 1 v l.length ((l.map (·.1)).map (Value.int .i32))) (hb2 : Below w1.heap.size w1 W') : Gives L w (.returned v) W' := by
  subst hL
  refine ⟨v, rfl, ?_, hb.trans (hb2.mono hb.size)⟩
  rw [List.length_map]
  obtain ⟨h1, h2⟩ := h
  refine ⟨h1, ?_⟩
  rcases h2 with h2 | ⟨g, cap, cur, e, hg, h3⟩
  · exact .inl h2
  · exact .inr ⟨g, cap, cur, e, Nat.le_trans hb.size hg, h3⟩

set_option maxRecDepth 100000 in
set_option maxHeartbeats 1000000 in
theorem order_any (v : Value) (L : List Int) (w : World) (hlen : L.length ≤ 50000) (hv : Row21 w v L) : Calls Try.prog 11 #[v] w fun e W' => Gives (ordI L) w e W' := by
  have hsh : ∃ a m c, v = .slice a m c := by obtain ⟨a, c, e, _⟩ := hv; exact ⟨a, _, c, e⟩
  have hval := callsIn_wide.1 (values_in 3 v w hsh)
  have hbx := Boxed.new w 22 v
  obtain ⟨w1, hw1⟩ : ∃ w1, w1 = w.alloc (.cells #[v] 22) := ⟨_, rfl⟩
  rw [← hw1] at hval hbx
  have hB1 : Below w.heap.size w w1 := by rw [hw1]; exact (Below.refl _ w).alloc (Nat.le_refl _) _
  have hord := ordered_any 37 #[.pointer (some ⟨w.heap.size, 0, none⟩)] L w1 (by omega) (enters_of Try.func37 (by kernel_rfl) rfl) (values_feeds w1 w.heap.size v L (by omega) hbx (hv.below hB1))
  have HV := hid hval
  have HO := hid hord
  have HB1 := hid hB1
  obtain ⟨a, m, c, rfl⟩ := hsh
  clear hval hord hB1 hbx hv hw1
  go_enter Try.func11, Try.ntmps11
  go_wp2_with fail
  refine (show Calls _ _ _ _ _ from HV.out).mono ?_
  rintro e w' ⟨rfl, rfl⟩
  go_wp2_with fail
  refine (show Calls _ _ _ _ _ from HO.out).mono ?_
  rintro e w2 ⟨v2, rfl, hr2, hB2⟩
  have hB12 := HB1.out.trans (hB2.mono HB1.out.size)
  have hrun := runes_any v2 (ord (L.map pt)) w2 (by rw [ord_len, List.length_map]; omega) (RowP.of_own hr2)
  have HR := hid hrun
  have HB12 := hid hB12
  clear hrun hr2 hB2 hB12
  go_wp2_with fail
  refine (show Calls _ _ _ _ _ from HR.out).mono ?_
  rintro e w3 ⟨v3, rfl, hr3, hB3⟩
  go_wp2
  go_ret
  exact gives_of rfl HB12.out hr3 hB3
set_option maxRecDepth 100000 in
set_option maxHeartbeats 1000000 in
theorem nfd_any (v : Value) (L : List Int) (w : World) (hlen : L.length ≤ 10000) (hv : Row21 w v L) : Calls Try.prog 13 #[v] w fun e W' => Gives (nfdI L) w e W' := by
  have hsh : ∃ a m c, v = .slice a m c := by obtain ⟨a, c, e, _⟩ := hv; exact ⟨a, _, c, e⟩
  have hval := callsIn_wide.1 (allApart_in 3 v w hsh)
  have hbx := Boxed.new w 22 v
  obtain ⟨w1, hw1⟩ : ∃ w1, w1 = w.alloc (.cells #[v] 22) := ⟨_, rfl⟩
  rw [← hw1] at hval hbx
  have hB1 : Below w.heap.size w w1 := by rw [hw1]; exact (Below.refl _ w).alloc (Nat.le_refl _) _
  have hfl := fds_len L
  have hord := ordered_any 38 #[.pointer (some ⟨w.heap.size, 0, none⟩)] (L.flatMap fd) w1 (by omega) (enters_of Try.func38 (by kernel_rfl) rfl) (all_feeds w1 w.heap.size v L (by omega) hbx (hv.below hB1))
  have HV := hid hval
  have HO := hid hord
  have HB1 := hid hB1
  obtain ⟨a, m, c, rfl⟩ := hsh
  clear hval hord hB1 hbx hv hw1
  go_enter Try.func13, Try.ntmps13
  go_wp2_with fail
  refine (show Calls _ _ _ _ _ from HV.out).mono ?_
  rintro e w' ⟨rfl, rfl⟩
  go_wp2_with fail
  refine (show Calls _ _ _ _ _ from HO.out).mono ?_
  rintro e w2 ⟨v2, rfl, hr2, hB2⟩
  have hB12 := HB1.out.trans (hB2.mono HB1.out.size)
  have hrun := runes_any v2 (ord ((L.flatMap fd).map pt)) w2 (by rw [ord_len, List.length_map]; omega) (RowP.of_own hr2)
  have HR := hid hrun
  have HB12 := hid hB12
  clear hrun hr2 hB2 hB12
  go_wp2_with fail
  refine (show Calls _ _ _ _ _ from HR.out).mono ?_
  rintro e w3 ⟨v3, rfl, hr3, hB3⟩
  go_wp2
  go_ret
  exact gives_of rfl HB12.out hr3 hB3
set_option maxRecDepth 100000 in
set_option maxHeartbeats 1000000 in
theorem nfc_any (v : Value) (L : List Int) (w : World) (hlen : L.length ≤ 10000) (hv : Row21 w v L) : Calls Try.prog 15 #[v] w fun e W' => Gives (nfcI L) w e W' := by
  have hsh : ∃ a m c, v = .slice a m c := by obtain ⟨a, c, e, _⟩ := hv; exact ⟨a, _, c, e⟩
  have hval := callsIn_wide.1 (allApart_in 3 v w hsh)
  have hbx := Boxed.new w 22 v
  obtain ⟨w1, hw1⟩ : ∃ w1, w1 = w.alloc (.cells #[v] 22) := ⟨_, rfl⟩
  rw [← hw1] at hval hbx
  have hB1 : Below w.heap.size w w1 := by rw [hw1]; exact (Below.refl _ w).alloc (Nat.le_refl _) _
  have hfl := fds_len L
  have hord := ordered_any 38 #[.pointer (some ⟨w.heap.size, 0, none⟩)] (L.flatMap fd) w1 (by omega) (enters_of Try.func38 (by kernel_rfl) rfl) (all_feeds w1 w.heap.size v L (by omega) hbx (hv.below hB1))
  have HV := hid hval
  have HO := hid hord
  have HB1 := hid hB1
  obtain ⟨a, m, c, rfl⟩ := hsh
  clear hval hord hB1 hbx hv hw1
  go_enter Try.func15, Try.ntmps15
  go_wp2_with fail
  refine (show Calls _ _ _ _ _ from HV.out).mono ?_
  rintro e w' ⟨rfl, rfl⟩
  go_wp2_with fail
  refine (show Calls _ _ _ _ _ from HO.out).mono ?_
  rintro e w2 ⟨v2, rfl, hr2, hB2⟩
  have hB12 := HB1.out.trans (hB2.mono HB1.out.size)
  have hol : (ord ((L.flatMap fd).map pt)).length ≤ 30000 := by rw [ord_len, List.length_map]; omega
  have htog := together_any v2 (ord ((L.flatMap fd).map pt)) w2 (by omega) (RowP.of_own hr2)
  have HTG := hid htog
  have HB12 := hid hB12
  clear htog hr2 hB2 hB12
  go_wp2_with fail
  refine (show Calls _ _ _ _ _ from HTG.out).mono ?_
  rintro e w3 ⟨v3, rfl, hr3, hB3⟩
  have hB13 := HB12.out.trans (hB3.mono HB12.out.size)
  have hrun := runes_any v3 (comp (ord ((L.flatMap fd).map pt))) w3 (by have := tst_len (ord ((L.flatMap fd).map pt)); unfold comp; omega) (RowP.of_own hr3)
  have HR := hid hrun
  have HB13 := hid hB13
  clear hrun hr3 hB3 hB13
  go_wp2_with fail
  refine (show Calls _ _ _ _ _ from HR.out).mono ?_
  rintro e w4 ⟨v4, rfl, hr4, hB4⟩
  go_wp2
  go_ret
  exact gives_of rfl HB13.out hr4 hB4
set_option maxRecDepth 100000 in
set_option maxHeartbeats 1000000 in
theorem is_any (v : Value) (L : List Int) (w : World) (hlen : L.length ≤ 10000) (hv : Row21 w v L) : Calls Try.prog 16 #[v] w fun e W' => e = .returned (.bool (decide (nfcI L = L))) ∧ Below w.heap.size w W' := by
  have hc := nfc_any v L w hlen hv
  have hsh : ∃ a m c, v = .slice a m c := by obtain ⟨a, c, e, _⟩ := hv; exact ⟨a, _, c, e⟩
  have HC := hid hc
  have HV := hid hv
  obtain ⟨a, m, c, rfl⟩ := hsh
  have hl1 := nfcI_len L
  have hl2 := nfdI_len L
  clear hc hv
  go_enter Try.func16, Try.ntmps16
  go_wp2_with fail
  refine (show Calls _ _ _ _ _ from HC.out).mono ?_
  rintro e w1 ⟨v1, rfl, hr1, hB1⟩
  have heq := equal_any v1 (.slice a m c) (nfcI L) L w1 (by omega) (Row21.of_own rfl hr1) (HV.out.below hB1)
  have HE := hid heq
  have HB1 := hid hB1
  clear heq hr1 hB1
  go_wp2_with fail
  refine (show Calls _ _ _ _ _ from HE.out).mono ?_
  rintro e w2 ⟨rfl, hB2⟩
  go_wp2
  go_ret
  exact ⟨rfl, HB1.out.trans (hB2.mono HB1.out.size)⟩
/-- What norm.Text answers. -/
def textR (s t : ByteArray) : Prop := ∃ r, U.encR (nfcI (U.dec (U.bn s))) t r
set_option maxRecDepth 100000 in
set_option maxHeartbeats 1000000 in
theorem text_any (s : ByteArray) (w : World) (hs : s.size ≤ 10000) : Calls Try.prog 17 #[.string s] w fun e W' => (∃ t, e = .returned (.string t) ∧ textR s t) ∧ Below w.heap.size w W' := by
  have hdl := U.dec_len _ _ (Nat.le_refl _) (U.bn_bytes s)
  rw [U.bn_length] at hdl
  have hdec := U.decode_any s (by omega) w
  have HTR : Hid (∀ t r, U.encR (nfcI (U.dec (U.bn s))) t r → textR s t) := fun t r h => ⟨r, h⟩
  generalize U.dec (U.bn s) = L at hdl hdec HTR
  have HD := hid hdec
  have hl1 := nfcI_len L
  have hl2 := nfdI_len L
  clear hdec
  go_enter Try.func17, Try.ntmps17
  go_wp2_with fail
  refine (show Calls _ _ _ _ _ from HD.out).mono ?_
  rintro e w1 ⟨v1, rfl, hr1, hB1⟩
  have hc := nfc_any v1 L w1 (by omega) (Row21.of_own rfl hr1)
  have HC := hid hc
  have HB1 := hid hB1
  clear hc hr1 hB1
  go_wp2_with fail
  refine (show Calls _ _ _ _ _ from HC.out).mono ?_
  rintro e w2 ⟨v2, rfl, hr2, hB2⟩
  have hB12 := HB1.out.trans (hB2.mono HB1.out.size)
  have he := U.encode_any v2 (nfcI L) (by omega) w2 (U.IntsAt.own rfl hr2)
  have HE := hid he
  have HB12 := hid hB12
  clear he hr2 hB2 hB12
  go_wp2_with fail
  refine (show Calls _ _ _ _ _ from HE.out).mono ?_
  rintro e w3 ⟨⟨t, r, rfl, ht⟩, hB3⟩
  have HT := hid (HTR.out t r ht)
  clear ht
  go_wp2
  go_ret
  exact ⟨⟨t, rfl, HT.out⟩, HB12.out.trans (hB3.mono HB12.out.size)⟩
end Go.Proofs.Ytcgfbejcehiolaa
