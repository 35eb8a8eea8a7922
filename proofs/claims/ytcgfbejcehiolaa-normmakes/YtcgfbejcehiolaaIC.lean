/- The iterators over a list: its numbers, and what they are made of. -/
import Derived.Test.YtcgfbejcehiolaaIB
namespace Go.Proofs.Ytcgfbejcehiolaa
open Go.RowKit Go.Shelf
set_option linter.unusedVariables false
attribute [local go_sem] Oper.semAt_some

set_option maxRecDepth 100000 in
set_option maxHeartbeats 1000000 in
theorem values_in (n : Nat) (v : Value) (w : World) (hv : ∃ a m c, v = .slice a m c) :
    CallsIn Fence.wide n Try.prog 24 #[v] w fun e w' => e = .returned (.func (.func 37) #[] #[.pointer (some ⟨w.heap.size, 0, none⟩)]) ∧ w' = w.alloc (.cells #[v] 22) := by
  obtain ⟨a, m, c, rfl⟩ := hv
  refine callsIn_of_wp Try.func24 rfl trivial ?_ rfl
  simp only [Try.ntmps24, List.size_toArray, List.length_cons, List.length_nil, Nat.reduceAdd, Nat.reduceSub, Array.replicate_succ, Array.replicate_zero, List.push_toArray, List.append_toArray, List.nil_append, List.cons_append]
  gi_wp2
  go_ret
  exact ⟨rfl, rfl⟩
set_option maxRecDepth 100000 in
set_option maxHeartbeats 1000000 in
theorem allApart_in (n : Nat) (v : Value) (w : World) (hv : ∃ a m c, v = .slice a m c) :
    CallsIn Fence.wide n Try.prog 25 #[v] w fun e w' => e = .returned (.func (.func 38) #[] #[.pointer (some ⟨w.heap.size, 0, none⟩)]) ∧ w' = w.alloc (.cells #[v] 22) := by
  obtain ⟨a, m, c, rfl⟩ := hv
  refine callsIn_of_wp Try.func25 rfl trivial ?_ rfl
  simp only [Try.ntmps25, List.size_toArray, List.length_cons, List.length_nil, Nat.reduceAdd, Nat.reduceSub, Array.replicate_succ, Array.replicate_zero, List.push_toArray, List.append_toArray, List.nil_append, List.cons_append]
  gi_wp2
  go_ret
  exact ⟨rfl, rfl⟩

set_option maxRecDepth 100000 in
set_option maxHeartbeats 2000000 in
theorem values_feeds (w : World) (Bl : Nat) (v : Value) (L : List Int) (hlen : L.length ≤ 100000) (hbl : Boxed w Bl 22 v) (hrow0 : Row21 w v L) : Feeds 37 #[.pointer (some ⟨Bl, 0, none⟩)] L w := by
  intro l J W hW hJ hY h0 n
  have hbW : Boxed W Bl 22 v := (hW.block Bl hbl.lt).trans hbl
  have hrow : Row21 W v L := hrow0.kp (Kp.below (B := 0) hW)
  obtain ⟨a, cap, rfl, hrf⟩ := hrow
  have hc := hbW.cell
  refine callsIn_of_wp Try.func37 rfl trivial ?_ rfl
  simp only [Try.ntmps37, List.size_toArray, List.length_cons, List.length_nil, Nat.reduceAdd, Nat.reduceSub, Array.replicate_succ, Array.replicate_zero, List.push_toArray, List.append_toArray, List.nil_append, List.cons_append]
  gi_wp2_with fail
  gi_loopw [7] (fun i wr => ∃ k : Nat, k ≤ L.length ∧ i = .int .i64 k ∧ J (L.take k) wr ∧ (0 < L.length → ∃ b cur, a = some ⟨b, 0, none⟩ ∧ wr.heap[b]? = some (.cells cur 21 (0, 0)) ∧ ∀ j, j < L.length → cur[j]? = some (.int .i32 (L[j]?.getD 0)))) (fun i _ => L.length - (intOf i).toNat)
  case atStart => exact ⟨0, Nat.zero_le _, rfl, by simpa using h0, hrf⟩
  case round =>
    obtain ⟨k, hk, rfl, hj, hf⟩ := hrel
    by_cases hlt : k < L.length
    · obtain ⟨b, cur, rfl, hbk, hcur⟩ := hf (by omega)
      have hltz : (k : Int) < (L.length : Int) := by omega
      have hck : wr.cell? ⟨b, k, none⟩ = some (.int .i32 (L[k]?.getD 0)) := by simp [World.cell?, hbk, hcur k hlt]
      have HT : Hid (L.take (k + 1) = L.take k ++ [L[k]?.getD 0]) := by
        show _ = _
        rw [List.take_succ_eq_append_getElem hlt, List.getElem?_eq_getElem hlt]; rfl
      have hpx : L.take k ++ [L[k]?.getD 0] <+: L := by rw [← HT.out]; exact List.take_prefix _ _
      generalize L[k]?.getD 0 = x at hck HT hpx
      have hyy := hY _ x wr hj hpx (n - 1)
      obtain ⟨fn, tmps, assign, body, hy, hR⟩ := hyy
      clear hf hrf
      gi_wp2
      refine ⟨(fun h => by cases h), hR.mono ?_⟩
      rintro e W3 ⟨rfl, hj3, hk3⟩
      gi_wp2
      go_roundw
      case rel => exact ⟨k + 1, by omega, by go_num, by rw [HT.out]; exact hj3, fun _ => ⟨b, cur, rfl, hk3.cel b _ hbk rfl, hcur⟩⟩
      case measure => simp [intOf]; omega
    · have hltz : ¬ (k : Int) < (L.length : Int) := by omega
      have hkk : L.take k = L := List.take_of_length_le (by omega)
      rw [hkk] at hj
      gi_wp2
      go_end0
      exact ⟨⟨_, rfl⟩, hj⟩

set_option maxRecDepth 100000 in
set_option maxHeartbeats 2000000 in
theorem all_feeds (w : World) (Bl : Nat) (v : Value) (L : List Int) (hlen : L.length ≤ 100000) (hbl : Boxed w Bl 22 v) (hrow0 : Row21 w v L) : Feeds 38 #[.pointer (some ⟨Bl, 0, none⟩)] (L.flatMap fd) w := by
  intro l J W hW hJ hY h0 n
  have hbW : Boxed W Bl 22 v := (hW.block Bl hbl.lt).trans hbl
  have hrow : Row21 W v L := hrow0.kp (Kp.below (B := 0) hW)
  obtain ⟨a, cap, rfl, hrf⟩ := hrow
  have hc1 := (hbW.alloc (.cells #[.func (.yield l) #[] #[]] 57)).cell
  have hby := Boxed.new W 57 (.func (.yield l) #[] #[])
  obtain ⟨B, hB⟩ : ∃ B, B = W.heap.size := ⟨_, rfl⟩
  rw [← hB] at hby
  have HB := hid hB
  have HJ : Hid (OwnFrom B J) := by rw [hB]; exact hJ
  have hj2 : J [] (W.alloc (.cells #[.func (.yield l) #[] #[]] 57)) := OwnFrom.alloc hJ _ h0
  have hrf2 : 0 < L.length → ∃ b cur, a = some ⟨b, 0, none⟩ ∧ (W.alloc (.cells #[.func (.yield l) #[] #[]] 57)).heap[b]? = some (.cells cur 21 (0, 0)) ∧ ∀ j, j < L.length → cur[j]? = some (.int .i32 (L[j]?.getD 0)) := fun hp => by
    obtain ⟨b, cur, e2, g, hc⟩ := hrf hp
    exact ⟨b, cur, e2, (Below.heap_alloc W _ b (Array.getElem?_eq_some_iff.1 g).1).trans g, hc⟩
  clear hJ hrf
  refine callsIn_of_wp_marks Try.func38 rfl trivial ?_ rfl
  simp only [Try.ntmps38, List.size_toArray, List.length_cons, List.length_nil, Nat.reduceAdd, Nat.reduceSub, Array.replicate_succ, Array.replicate_zero, List.push_toArray, List.append_toArray, List.nil_append, List.cons_append]
  gi_wp2_with fail
  rw [← hB]
  clear hB
  refine wpIn_loop (fun act wr => ∃ (k : Nat) (Ds : List Nat) (u3 u4 u5 u9 u10 u11 u12 u13 u14 u15 u16 u17 u18 u19 : Value), k ≤ L.length ∧ Boxed wr B 57 (.func (.yield l) #[] #[]) ∧ (0 < L.length → ∃ b cur, a = some ⟨b, 0, none⟩ ∧ wr.heap[b]? = some (.cells cur 21 (0, 0)) ∧ ∀ j, j < L.length → cur[j]? = some (.int .i32 (L[j]?.getD 0))) ∧ J ((L.take k).flatMap fd) wr ∧ Marks B Ds wr ∧ Ds.Nodup ∧
      act = { tmps := #[.func (.yield l) #[] #[], .pointer (some ⟨Bl, 0, none⟩), .pointer (some ⟨B, 0, none⟩), u3, u4, u5, .slice a L.length cap, .int .i64 L.length, .int .i64 k, u9, u10, u11, u12, u13, u14, u15, u16, u17, u18, u19], defers := Ds.map mk })
    (fun act _ => L.length - (intOf (act.tmps.getD 8 undef)).toNat) ?_ ?_
  · exact ⟨0, [], _, _, _, _, _, _, _, _, _, _, _, _, _, _, Nat.zero_le _, hby, hrf2, by simpa using hj2, (fun D hD => by cases hD), List.nodup_nil, rfl⟩
  · rintro act wr ⟨k, Ds, u3, u4, u5, u9, u10, u11, u12, u13, u14, u15, u16, u17, u18, u19, hk, hyr, hfr, hjr, hmr, hnd, rfl⟩
    by_cases hlt : k < L.length
    · have hltz : (k : Int) < (L.length : Int) := by omega
      obtain ⟨b, cur, rfl, hbr', hcur⟩ := hfr (by omega)
      have hck : wr.cell? ⟨b, k, none⟩ = some (.int .i32 (L[k]?.getD 0)) := by simp [World.cell?, hbr', hcur k hlt]
      have HC := hid hcur
      have htk : Hid ((L.take (k + 1)).flatMap fd = (L.take k).flatMap fd ++ fd (L[k]?.getD 0)) := by
        show _ = _
        rw [List.take_succ_eq_append_getElem hlt, List.flatMap_append, List.getElem?_eq_getElem hlt]; simp
      have hpre : Hid ((L.take (k + 1)).flatMap fd <+: L.flatMap fd) := by
        show _ <+: _
        conv => rhs; rw [← List.take_append_drop (k + 1) L, List.flatMap_append]
        exact List.prefix_append _ _
      generalize L[k]?.getD 0 = p at hck htk
      clear hcur hfr hrf2
      gi_wp2_with fail
      refine ⟨trivial, (fun h => by cases h), ?_⟩
      refine (apart_in _ p _).mono ?_
      rintro e W3 ⟨rfl, hW3⟩
      gi_wp2_with fail
      clear hW3
      obtain ⟨V, hV⟩ : ∃ V, V = wr.alloc (.cells #[.int .i32 p] 21) := ⟨_, rfl⟩
      have hVb : Below wr.heap.size wr V := by rw [hV]; exact (Below.refl _ wr).alloc (Nat.le_refl _) _
      have hVp : Boxed V wr.heap.size 21 (.int .i32 p) := by rw [hV]; exact Boxed.new wr 21 _
      have hVy : Boxed V B 57 (.func (.yield l) #[] #[]) := (hVb.block B hyr.lt).trans hyr
      have hVc : V.heap[b]? = some (.cells cur 21 (0, 0)) := (hVb.block b (Array.getElem?_eq_some_iff.1 hbr').1).trans hbr'
      have hVj : J ((L.take k).flatMap fd) V := OwnFrom.below HJ.out hjr hVb
      have hVm : Marks B Ds V := fun D hD => ⟨(hmr D hD).1, (hVb.block D (Array.getElem?_eq_some_iff.1 (hmr D hD).2).1).trans (hmr D hD).2⟩
      have hBV : B ≤ V.heap.size := Nat.le_of_lt hVy.lt
      have hDV : ∀ D ∈ Ds, D < V.heap.size := fun D hD => (Array.getElem?_eq_some_iff.1 (hVm D hD).2).1
      have hbV : b < V.heap.size := (Array.getElem?_eq_some_iff.1 hVc).1
      rw [← hV]
      clear hyr hbr' hjr hmr hVb hV hck hby hj2 hc1 hbW
      refine range_feeds (gf := 58) (lb := #[.pointer (some ⟨wr.heap.size, 0, none⟩)]) (xs := fd p) rfl (enters_of Try.func58 (by kernel_rfl) rfl) (apart_feeds 4 p (tall4 p) V wr.heap.size hVp) rfl
        (fun pre W' => J ((L.take k).flatMap fd ++ pre) W' ∧ Boxed W' B 57 (.func (.yield l) #[] #[]) ∧ W'.heap[b]? = some (.cells cur 21 (0, 0)) ∧ Marks B Ds W')
        (OwnFrom.and (fun s X Y row hs hg hr => OwnFrom.mono HJ.out hBV _ X Y row hs hg hr) (OwnFrom.and (Own.from (boxed_own _ _ _) _) (OwnFrom.and (ownFrom_block hbV) (Marks.ownFrom hDV))))
        ⟨by simpa using hVj, hVy, hVc, hVm⟩
        (fun x => { tmps := #[.func (.yield l) #[] #[], .pointer (some ⟨Bl, 0, none⟩), .pointer (some ⟨B, 0, none⟩), u3, .int .i32 p, .int .i32 x, .slice (some ⟨b, 0, none⟩) L.length cap, .int .i64 L.length, .int .i64 k, .bool true, .pointer (some ⟨b, k, none⟩), .int .i32 p, .int .i32 p, .func (.func 58) #[] #[.pointer (some ⟨wr.heap.size, 0, none⟩)], .int .i32 x, u15, u16, u17, u18, u19], defers := [] }) ?assign ?body ?done
      case assign =>
        intro l' x W' m K hK
        gi_wp2
        exact hK
      case body =>
        rintro l' pre x W' m ⟨hj, hyb, hcb, hmb⟩ hpx
        have cy := hyb.cell
        have hq : (L.take k).flatMap fd ++ pre ++ [x] <+: L.flatMap fd := by
          refine List.IsPrefix.trans ?_ hpre.out
          rw [htk.out, List.append_assoc]
          exact (List.prefix_append_right_inj _).2 hpx
        obtain ⟨fn, tmps, assign, body, hy, hR⟩ := hY _ x W' hj hq (m - 1)
        gi_wp2
        refine ⟨(fun h => by cases h), hR.mono ?_⟩
        rintro e W4 ⟨rfl, hj4, hk4⟩
        rw [← HB.out] at hk4
        gi_wp2
        exact ⟨hk4.mono hBV, by rw [← List.append_assoc]; exact hj4, hk4.boxed hyb (by decide), hk4.cel b _ hcb rfl, hmb.kp hk4⟩
      case done =>
        rintro D W' hD ⟨hj, hyb, hcb, hmb⟩ hdf
        have hws := wrap_succ k (by omega)
        gi_wp2
        refine ⟨⟨k + 1, D :: Ds, _, _, _, _, _, _, _, _, _, _, _, _, _, _, by omega, hyb, (fun _ => ⟨b, cur, rfl, hcb, HC.out⟩), by rw [htk.out]; exact hj, ?_, ?_, rfl⟩, ?_⟩
        · intro E hE
          rcases List.mem_cons.1 hE with rfl | hE
          · exact ⟨by omega, hdf⟩
          · exact hmb E hE
        · exact List.nodup_cons.2 ⟨fun h => by have := hDV D h; omega, hnd⟩
        · simp [intOf]; omega
    · have hltz : ¬ (k : Int) < (L.length : Int) := by omega
      have hkk : Hid ((L.take k).flatMap fd = L.flatMap fd) := by
        show _ = _
        rw [List.take_of_length_le (by omega)]
      gi_wp2
      refine leaves_marks HJ.out (fun W => results_none rfl _ _ _) (fun W' hj => ⟨⟨_, rfl⟩, hj⟩) Ds wr hnd hmr ?_
      rw [← hkk.out]; exact hjr
end Go.Proofs.Ytcgfbejcehiolaa
