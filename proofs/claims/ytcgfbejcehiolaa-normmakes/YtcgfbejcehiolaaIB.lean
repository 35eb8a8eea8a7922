/- The iterators of the program: a list's numbers, what one is made of, what all of a list are made of. -/
import Derived.Test.YtcgfbejcehiolaaIA
import Derived.Test.YtcgfbejcehiolaaNA
namespace Go.Proofs.Ytcgfbejcehiolaa
open Go.RowKit Go.Shelf
set_option linter.unusedVariables false
attribute [local go_sem] Oper.semAt_some

/-- The slice value v leads to the numbers zs, from the beginning of a block of numbers on. -/
def Row21 (W : World) (v : Value) (zs : List Int) : Prop :=
  ∃ a cap, v = .slice a zs.length cap ∧ (0 < zs.length → ∃ b cur, a = some ⟨b, 0, none⟩ ∧ W.heap[b]? = some (.cells cur 21 (0, 0)) ∧ ∀ j, j < zs.length → cur[j]? = some (.int .i32 (zs[j]?.getD 0)))
theorem Row21.of_ints {W : World} {v : Value} {zs : List Int} (h : D.IntsAt W v zs) : Row21 W v zs := by
  obtain ⟨a, cap, e, _, f⟩ := h
  refine ⟨a, cap, e, fun hp => ?_⟩
  obtain ⟨b, e2, g⟩ := f hp
  refine ⟨b, _, e2, g, fun j hj => ?_⟩
  simp [List.getElem?_eq_getElem hj]
theorem Row21.of_own {W : World} {base n : Nat} {v : Value} {zs : List Int} (hn : n = zs.length) (h : W.ownsRow base 21 1 v n (zs.map (Value.int .i32))) : Row21 W v zs := by
  subst hn
  rcases h.2 with ⟨rfl, h0⟩ | ⟨g, cap, cur, rfl, _, hg, _, _, _, ht⟩
  · exact ⟨none, 0, by rw [h0], fun hp => by omega⟩
  · refine ⟨_, cap, rfl, fun hp => ⟨g, cur, rfl, hg, fun j hj => ?_⟩⟩
    have h1 : (cur.toList.take (zs.length * 1))[j]? = some (.int .i32 (zs[j]?.getD 0)) := by rw [ht, List.getElem?_map, List.getElem?_eq_getElem hj]; rfl
    rw [List.getElem?_take_of_lt (by omega)] at h1
    simpa using h1
theorem Row21.kp {B : Nat} {W W' : World} {v : Value} {zs : List Int} (h : Row21 W v zs) (hk : Kp B W W') : Row21 W' v zs := by
  obtain ⟨a, cap, e, f⟩ := h
  refine ⟨a, cap, e, fun hp => ?_⟩
  obtain ⟨b, cur, e2, g, hc⟩ := f hp
  exact ⟨b, cur, e2, hk.cel b _ g rfl, hc⟩
theorem Row21.own {β : Type} (v : Value) (zs : List Int) : Own (fun (_ : β) W => Row21 W v zs) := by
  rintro s X Y row ⟨a, cap, e, f⟩ hg hr
  refine ⟨a, cap, e, fun hp => ?_⟩
  obtain ⟨b, cur, e2, g, hc⟩ := f hp
  refine ⟨b, cur, e2, (hg.block b (Array.getElem?_eq_some_iff.1 g).1 (fun e' => ?_)).trans g, hc⟩
  obtain ⟨o, ho, hcl⟩ := hr b e'.symm
  rw [g] at ho; cases ho; cases hcl
theorem Row21.cell {W : World} {a : Option Addr} {n cap : Nat} {zs : List Int} (h : Row21 W (.slice a n cap) zs) (hn : n = zs.length) (hp : 0 < zs.length) : ∃ b, a = some ⟨b, 0, none⟩ ∧ b < W.heap.size ∧ ∀ j, j < zs.length → W.cell? ⟨b, j, none⟩ = some (.int .i32 (zs[j]?.getD 0)) := by
  obtain ⟨a', cap', e, f⟩ := h
  cases e
  obtain ⟨b, cur, e2, g, hc⟩ := f hp
  exact ⟨b, e2, (Array.getElem?_eq_some_iff.1 g).1, fun j hj => by simp [World.cell?, g, hc j hj]⟩
theorem grown_below {W W' : World} (h : Below W.heap.size W W') : W.grownBy W' none := ⟨h.os, h.tape, h.output, h.size, fun k hk _ => h.block k hk⟩
theorem OwnFrom.below {β : Type} {B : Nat} {J : β → World → Prop} (hJ : OwnFrom B J) {s : β} {W W' : World} (h : J s W) (hb : Below W.heap.size W W') : J s W' :=
  hJ s W W' none h (grown_below hb) (fun r e => by cases e)

/-- The marks of the loops that a function went through. -/
def mk (D : Nat) : Deferred := { target := .collected D, args := #[] }
def Marks (B : Nat) (Ds : List Nat) (W : World) : Prop := ∀ D ∈ Ds, B ≤ D ∧ W.heap[D]? = some (.deferred (some []))
theorem Marks.kp {B : Nat} {Ds : List Nat} {W W' : World} (h : Marks B Ds W) (hk : Kp B W W') : Marks B Ds W' := fun D hD => ⟨(h D hD).1, hk.oth D _ (h D hD).1 (h D hD).2 rfl⟩
theorem Marks.ownFrom {β : Type} {B C : Nat} {Ds : List Nat} (h : ∀ D ∈ Ds, D < C) : OwnFrom C (fun (_ : β) W => Marks B Ds W) :=
  fun s X Y row hs hg hr D hD => ⟨(hs D hD).1, (hg.block D (Array.getElem?_eq_some_iff.1 (hs D hD).2).1 (fun e => by have := (hr D e.symm).1; have := h D hD; omega)).trans (hs D hD).2⟩
theorem leaves_marks {n : Nat} {fn : Func} {tmps : Array Value} {R : Ending → World → Prop} {J : List Int → World → Prop} {xs : List Int} {B : Nat} {v : Value} (hJ : OwnFrom B J) (hres : ∀ W, (results fn tmps).run Try.prog W = .ok v W)
    (hR : ∀ W', J xs W' → R (.returned v) W') : ∀ (Ds : List Nat) (W : World), Ds.Nodup → Marks B Ds W → J xs W → LeavesInM Fence.wide n Try.prog fn tmps R (Ds.map mk) .returning W
  | [], W, _, _, hj => ⟨_, hres W, hR W hj⟩
  | D :: Ds, W, hn, hm, hj => by
    have hD := hm D (by simp)
    refine ⟨by simp, .inl ⟨D, _, rfl, run_takeDeferred hD.2, ?_⟩⟩
    refine leaves_marks hJ hres hR Ds _ (List.nodup_cons.1 hn).2 (fun E hE => ⟨(hm E (by simp [hE])).1, ?_⟩) (hJ.putObj _ hj hD.1 hD.2 rfl)
    exact (World.putObj_heap_other (fun e => (List.nodup_cons.1 hn).1 (by rw [← e]; exact hE))).trans (hm E (by simp [hE])).2

set_option maxRecDepth 100000 in
set_option maxHeartbeats 1000000 in
/-- norm.apart: its number is boxed; the function value captures the box. -/
theorem apart_in (n : Nat) (r : Int) (w : World) :
    CallsIn Fence.wide n Try.prog 39 #[.int .i32 r] w fun e w' => e = .returned (.func (.func 58) #[] #[.pointer (some ⟨w.heap.size, 0, none⟩)]) ∧ w' = w.alloc (.cells #[.int .i32 r] 21) := by
  refine callsIn_of_wp Try.func39 rfl trivial ?_ rfl
  simp only [Try.ntmps39, List.size_toArray, List.length_cons, List.length_nil, Nat.reduceAdd, Nat.reduceSub, Array.replicate_succ, Array.replicate_zero, List.push_toArray, List.append_toArray, List.nil_append, List.cons_append]
  gi_wp2
  go_ret
  exact ⟨rfl, rfl⟩

theorem dcp_len (r : Int) : (D.dcp r).length ≤ 2 := by
  unfold D.dcp
  split
  · simp
  · split <;> simp
theorem wrap_succ (k : Nat) (h : k < 1000000) : wrap64 ((k : Int) + 1) = ((k + 1 : Nat) : Int) := by unfold wrap64; omega

set_option maxRecDepth 100000 in
set_option maxHeartbeats 2000000 in
theorem apart_step (r : Int) (hp : ∀ p ∈ D.dcp r, ∀ (w : World) (Br : Nat), Boxed w Br 21 (.int .i32 p) → Feeds 58 #[.pointer (some ⟨Br, 0, none⟩)] (fd p) w)
    (w : World) (Br : Nat) (hbr : Boxed w Br 21 (.int .i32 r)) : Feeds 58 #[.pointer (some ⟨Br, 0, none⟩)] (fd r) w := by
  intro l J W hW hJ hY h0 n
  have hbW : Boxed W Br 21 (.int .i32 r) := (hW.block Br hbr.lt).trans hbr
  have hdec := D.decomp_any r
  have hfn := @fd_nil r
  have hfc := @fd_cons r
  have hLl := dcp_len r
  generalize D.dcp r = L at hp hdec hfn hfc hLl
  have HDEC := hid hdec
  have HP := hid hp
  have hc1 := (hbW.alloc (.cells #[.func (.yield l) #[] #[]] 57)).cell
  have hby := Boxed.new W 57 (.func (.yield l) #[] #[])
  obtain ⟨B, hB⟩ : ∃ B, B = W.heap.size := ⟨_, rfl⟩
  rw [← hB] at hby
  have HB := hid hB
  have HJ : Hid (OwnFrom B J) := by rw [hB]; exact hJ
  clear hdec hp hJ
  refine callsIn_of_wp_marks Try.func58 rfl trivial ?_ rfl
  simp only [Try.ntmps58, List.size_toArray, List.length_cons, List.length_nil, Nat.reduceAdd, Nat.reduceSub, Array.replicate_succ, Array.replicate_zero, List.push_toArray, List.append_toArray, List.nil_append, List.cons_append]
  gi_wp2_with fail
  refine ⟨trivial, (fun h => by cases h), ?_⟩
  refine (callsIn_wide.2 (HDEC.out _)).mono ?_
  rintro e W2 ⟨⟨v, rfl, hI⟩, hB2⟩
  have hrow := Row21.of_ints hI
  have hbb : Below W.heap.size W W2 := ((Below.refl _ W).alloc (Nat.le_refl _) _).trans (hB2.mono (by simp))
  have hy2 : Boxed W2 B 57 (.func (.yield l) #[] #[]) := (hB2.block B (by rw [hB]; simp)).trans hby
  have hr2 : Boxed W2 Br 21 (.int .i32 r) := (hbb.block Br hbW.lt).trans hbW
  have hj2 : J [] W2 := OwnFrom.below HJ.out h0 hbb
  have hs2 : B < W2.heap.size := hy2.lt
  obtain ⟨a, cap, rfl, hrf⟩ := hrow
  rw [← hB]
  clear hI hbb hc1 hby hB hbW hB2
  by_cases hL : L = []
  · subst hL
    have cy := hy2.cell
    have cr := hr2.cell
    have hfd : fd r = [r] := hfn rfl
    obtain ⟨fn, tmps, assign, body, hy, hR⟩ := hY [] r W2 hj2 (by rw [hfd]; simp) (n - 1)
    gi_wp2
    refine ⟨(fun h => by cases h), hR.mono ?_⟩
    rintro e W3 ⟨rfl, hj3, hk3⟩
    gi_wp2
    exact ⟨_, results_none rfl _ _ _, ⟨_, rfl⟩, by rw [hfd]; exact hj3⟩
  · have hLp : 0 < L.length := by cases L with
      | nil => exact absurd rfl hL
      | cons a l => simp
    have hLb : ((L.length : Int) == 0) = false := by simp; omega
    obtain ⟨b, cur, rfl, hbk, hcur⟩ := hrf hLp
    have HC := hid hcur
    have hfd : Hid (fd r = L.flatMap fd) := hfc hL
    clear hcur hrf hfn hfc HDEC hL
    gi_wp2_with fail
    refine wpIn_loop (fun act wr => ∃ (k : Nat) (Ds : List Nat) (u4 u5 u6 u12 u13 u14 u18 u19 u20 u21 u22 u23 u24 u25 u26 u27 u28 : Value), k ≤ L.length ∧ Boxed wr B 57 (.func (.yield l) #[] #[]) ∧ wr.heap[b]? = some (.cells cur 21 (0, 0)) ∧ J ((L.take k).flatMap fd) wr ∧ Marks B Ds wr ∧ Ds.Nodup ∧
        act = { tmps := #[.func (.yield l) #[] #[], .pointer (some ⟨Br, 0, none⟩), .pointer (some ⟨B, 0, none⟩), .slice (some ⟨b, 0, none⟩) L.length cap, u4, u5, u6, .int .i32 r, .slice (some ⟨b, 0, none⟩) L.length cap, .slice (some ⟨b, 0, none⟩) L.length cap, .int .i64 L.length, .bool false, u12, u13, u14, .slice (some ⟨b, 0, none⟩) L.length cap, .int .i64 L.length, .int .i64 k, u18, u19, u20, u21, u22, u23, u24, u25, u26, u27, u28], defers := Ds.map mk })
      (fun act _ => L.length - (intOf (act.tmps.getD 17 undef)).toNat) ?_ ?_
    · exact ⟨0, [], _, _, _, _, _, _, _, _, _, _, _, _, _, _, _, _, _, Nat.zero_le _, hy2, hbk, by simpa using hj2, (fun D hD => by cases hD), List.nodup_nil, rfl⟩
    · rintro act wr ⟨k, Ds, u4, u5, u6, u12, u13, u14, u18, u19, u20, u21, u22, u23, u24, u25, u26, u27, u28, hk, hyr, hbr', hjr, hmr, hnd, rfl⟩
      by_cases hlt : k < L.length
      · have hltz : (k : Int) < (L.length : Int) := by omega
        have hck : wr.cell? ⟨b, k, none⟩ = some (.int .i32 (L[k]?.getD 0)) := by simp [World.cell?, hbr', HC.out k hlt]
        have hpk : L[k]?.getD 0 ∈ L := by rw [List.getElem?_eq_getElem hlt]; exact List.getElem_mem hlt
        have htk : Hid ((L.take (k + 1)).flatMap fd = (L.take k).flatMap fd ++ fd (L[k]?.getD 0)) := by
          show _ = _
          rw [List.take_succ_eq_append_getElem hlt, List.flatMap_append, List.getElem?_eq_getElem hlt]; simp
        have hpre : Hid ((L.take (k + 1)).flatMap fd <+: fd r) := by
          show _ <+: _
          rw [hfd.out]
          conv => rhs; rw [← List.take_append_drop (k + 1) L, List.flatMap_append]
          exact List.prefix_append _ _
        have HPK := hid (HP.out _ hpk)
        generalize L[k]?.getD 0 = p at hck htk HPK
        clear hpk HP
        gi_wp2_with fail
        refine ⟨trivial, (fun h => by cases h), ?_⟩
        refine (apart_in _ p _).mono ?_
        rintro e W3 ⟨rfl, hW3⟩
        gi_wp2_with fail
        clear hW3
        obtain ⟨V, hV⟩ : ∃ V, V = wr.alloc (.cells #[.int .i32 p] 21) := ⟨_, rfl⟩
        have hVb : Below wr.heap.size wr V := by rw [hV]; exact (Below.refl _ wr).alloc (Nat.le_refl _) _
        have hVp : Boxed V wr.heap.size 21 (.int .i32 p) := by rw [hV]; exact Boxed.new wr 21 _
        have hVy : Boxed V B 57 (.func (.yield l) #[] #[]) := (hVb.block B hyr.lt).trans hyr
        have hVc : V.heap[b]? = some (.cells cur 21 (0, 0)) := (hVb.block b (Array.getElem?_eq_some_iff.1 hbr').1).trans hbr'
        have hVj : J ((L.take k).flatMap fd) V := OwnFrom.below HJ.out hjr hVb
        have hVm : Marks B Ds V := fun D hD => ⟨(hmr D hD).1, (hVb.block D (Array.getElem?_eq_some_iff.1 (hmr D hD).2).1).trans (hmr D hD).2⟩
        have hBV : B ≤ V.heap.size := Nat.le_of_lt hVy.lt
        have hDV : ∀ D ∈ Ds, D < V.heap.size := fun D hD => (Array.getElem?_eq_some_iff.1 (hVm D hD).2).1
        have hbV : b < V.heap.size := (Array.getElem?_eq_some_iff.1 hVc).1
        rw [← hV]
        clear hyr hbr' hjr hmr hVb hV hck
        refine range_feeds (gf := 58) (lb := #[.pointer (some ⟨wr.heap.size, 0, none⟩)]) (xs := fd p) rfl (enters_of Try.func58 (by kernel_rfl) rfl) (HPK.out V wr.heap.size hVp) rfl
          (fun pre W' => J ((L.take k).flatMap fd ++ pre) W' ∧ Boxed W' B 57 (.func (.yield l) #[] #[]) ∧ W'.heap[b]? = some (.cells cur 21 (0, 0)) ∧ Marks B Ds W')
          (OwnFrom.and (fun s X Y row hs hg hr => OwnFrom.mono HJ.out hBV _ X Y row hs hg hr) (OwnFrom.and (Own.from (boxed_own _ _ _) _) (OwnFrom.and (ownFrom_block hbV) (Marks.ownFrom hDV))))
          ⟨by simpa using hVj, hVy, hVc, hVm⟩
          (fun x => { tmps := #[.func (.yield l) #[] #[], .pointer (some ⟨Br, 0, none⟩), .pointer (some ⟨B, 0, none⟩), .slice (some ⟨b, 0, none⟩) L.length cap, u4, .int .i32 p, .int .i32 x, .int .i32 r, .slice (some ⟨b, 0, none⟩) L.length cap, .slice (some ⟨b, 0, none⟩) L.length cap, .int .i64 L.length, .bool false, u12, u13, u14, .slice (some ⟨b, 0, none⟩) L.length cap, .int .i64 L.length, .int .i64 k, .bool true, .pointer (some ⟨b, k, none⟩), .int .i32 p, .int .i32 p, .func (.func 58) #[] #[.pointer (some ⟨wr.heap.size, 0, none⟩)], .int .i32 x, u24, u25, u26, u27, u28], defers := [] }) ?assign ?body ?done
        case assign =>
          intro l' x W' m K hK
          gi_wp2
          exact hK
        case body =>
          rintro l' pre x W' m ⟨hj, hyb, hcb, hmb⟩ hpx
          have cy := hyb.cell
          have hq : (L.take k).flatMap fd ++ pre ++ [x] <+: fd r := by
            refine List.IsPrefix.trans ?_ hpre.out
            rw [htk.out, List.append_assoc]
            exact (List.prefix_append_right_inj _).2 hpx
          obtain ⟨fn, tmps, assign, body, hy, hR⟩ := hY _ x W' hj hq (m - 1)
          gi_wp2
          refine ⟨(fun h => by cases h), hR.mono ?_⟩
          rintro e W4 ⟨rfl, hj4, hk4⟩
          rw [← HB.out] at hk4
          gi_wp2
          exact ⟨hk4.mono hBV, by rw [← List.append_assoc]; exact hj4, hk4.boxed hyb (by decide), hk4.cel b _ hcb rfl, hmb.kp hk4⟩
        case done =>
          rintro D W' hD ⟨hj, hyb, hcb, hmb⟩ hdf
          have hws := wrap_succ k (by omega)
          gi_wp2
          refine ⟨⟨k + 1, D :: Ds, _, _, _, _, _, _, _, _, _, _, _, _, _, _, _, _, _, by omega, hyb, hcb, by rw [htk.out]; exact hj, ?_, ?_, rfl⟩, ?_⟩
          · intro E hE
            rcases List.mem_cons.1 hE with rfl | hE
            · exact ⟨by omega, hdf⟩
            · exact hmb E hE
          · exact List.nodup_cons.2 ⟨fun h => by have := hDV D h; omega, hnd⟩
          · simp [intOf]; omega
      · have hltz : ¬ (k : Int) < (L.length : Int) := by omega
        have hkk : Hid ((L.take k).flatMap fd = fd r) := by
          show _ = _
          rw [List.take_of_length_le (by omega), hfd.out]
        gi_wp2
        refine leaves_marks HJ.out (fun W => results_none rfl _ _ _) (fun W' hj => ⟨⟨_, rfl⟩, hj⟩) Ds wr hnd hmr ?_
        rw [← hkk.out]; exact hjr

theorem apart_feeds : ∀ (k : Nat) (r : Int), tall k r = true → ∀ (w : World) (Br : Nat), Boxed w Br 21 (.int .i32 r) → Feeds 58 #[.pointer (some ⟨Br, 0, none⟩)] (fd r) w
  | 0, r, ht, w, Br, hb => apart_step r (fun p hp => by
      have : D.dcp r = [] := by simpa [tall] using ht
      rw [this] at hp; cases hp) w Br hb
  | k + 1, r, ht, w, Br, hb => apart_step r (fun p hp => apart_feeds k p (List.all_eq_true.1 ht p hp)) w Br hb
end Go.Proofs.Ytcgfbejcehiolaa
