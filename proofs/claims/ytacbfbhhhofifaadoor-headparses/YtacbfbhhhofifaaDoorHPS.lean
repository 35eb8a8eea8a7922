/- head: Feed, Parse. (Stage 19.) -/
import Derived.Test.YtacbfbhhhofifaaDoorHPR
import Derived.Test.YtacbfbhhhofifaaDoorHLA
namespace Go.Proofs.YtacbfbhhhofifaaDoor.Hd
open Go.RowKit
open Go.Proofs.YtacbfbhhhofifaaDoor.F (bn bn_length bn_append bn_inj bn_get byte_bd hid bn_extract isEmpty_false isEmpty_true str_eq same_eq)
set_option linter.unusedVariables false

theorem Rd.len {base : Nat} {W : World} {p : Value} {l : List Int} (h : Rd base W p l) : (go s0 l).n = l.length := by
  obtain ⟨b, rfl, _, hn⟩ := h
  exact hn
theorem Rd.keep {base : Nat} {W W' : World} {p : Value} {l : List Int} (h : Rd base W p l) (hb : Below W.heap.size W W') : Rd base W' p l := by
  obtain ⟨b, rfl, hs, hn⟩ := h
  exact ⟨b, rfl, hs.below hb, hn⟩
theorem Rd.base {base : Nat} {W : World} {p : Value} {l : List Int} (h : Rd base W p l) : base ≤ W.heap.size := by
  obtain ⟨b, rfl, hs, _⟩ := h
  obtain ⟨wr, L, M, T, v, F, l', fs, hm⟩ := hs.mem
  exact hm.base_le
theorem took_len {l m : List Int} (h : ¬ overS l) : (go s0 (took l m)).n = (took l m).length := by
  rw [took_go, if_neg h]
  unfold took
  rw [if_neg h, List.length_take]
  have := (go0_n (l ++ m)).1
  omega
/-- What Feed answers. -/
theorem feed_any (base : Nat) (W : World) (p : Value) (l : List Int) (s : ByteArray) (h : Rd base W p l) (hs : s.size ≤ 1000000) : Calls Tryd.prog 17 #[p, .string s] W fun e W' => FeR l (bn s) e ∧ Rd base W' p (took l (bn s)) ∧ Below base W W' ∧ (overS l → Below W.heap.size W W') := by
  have hK := h
  obtain ⟨b, rfl, hst, hn⟩ := h
  have hmem := hst.mem
  obtain ⟨wr, L, M, T, v, F, l', fs, hm⟩ := hmem
  have hlt := hm.lt
  have hbl := hm.base_le
  have hc0 : W.cell? ⟨b, 0, none⟩ = some (.int .u8 (stR (go s0 l))) := hm.cell 0
  rcases hst with ⟨h1, h2, h3⟩ | ⟨h1, h2, h3⟩ | ⟨h1, h2, h3⟩
  · have ho : ¬ overS l := by unfold overS; simp [h1, h2]
    refine (feed_live base W b (go s0 l) s h3 hs).mono ?_
    rintro e W' ⟨he, hR, hB⟩
    rw [← go_append] at he hR
    refine ⟨?_, ⟨b, rfl, ?_, took_len ho⟩, hB, fun h => absurd h ho⟩
    · unfold FeR
      rw [if_neg ho, he, hn]
    · rw [took_go, if_neg ho]
      exact hR
  · have ho : overS l := .inl h2
    have e4 : stR (go s0 l) = 4 := by unfold stR; rw [if_neg (by simp [h1]), if_pos h2]
    rw [e4] at hc0
    refine (feed_done W b s hlt hc0).mono ?_
    rintro e W' ⟨rfl, hB⟩
    refine ⟨?_, ?_, hB.mono hbl, fun _ => hB⟩
    · unfold FeR
      rw [if_pos ho, if_pos h2]
      rfl
    · unfold took
      rw [if_pos ho]
      exact hK.keep hB
  · have ho : overS l := .inr h1
    have e5 : stR (go s0 l) = 5 := by unfold stR; rw [if_pos h1]
    rw [e5] at hc0
    refine (feed_brk W b (go s0 l).e s hlt hc0 (Mem.cell h3 1)).mono ?_
    rintro e W' ⟨rfl, hB⟩
    refine ⟨?_, ?_, hB.mono hbl, fun _ => hB⟩
    · unfold FeR
      rw [if_pos ho, if_neg (by rw [h2]; decide)]
    · unfold took
      rw [if_pos ho]
      exact hK.keep hB
theorem over_nil : ¬ overS [] := by unfold overS; simp [go, s0]
theorem fer_nil {m : List Int} {e : Ending} (h : FeR [] m e) : e = .returned (.tuple #[.int .i64 ((go s0 m).n : Nat), .bool (go s0 m).d, .int .i64 ((go s0 m).e : Nat)]) := by
  unfold FeR at h
  rw [if_neg over_nil, List.nil_append] at h
  rw [h]
  simp
abbrev zrow : Array Value := hrow ⟨#[]⟩ ⟨#[]⟩ 0 (.slice none 0 0)
theorem parse_res : Tryd.f9.results = #[.cell 2 27, .tmp 3, .tmp 4] := rfl
theorem results_parse {w : World} {g : Nat} {M T : ByteArray} {v : Int} {F : Value} {tmps : Array Value} (h2 : tmps.getD 2 undef = .pointer (some ⟨g, 0, none⟩)) (hg : w.heap[g]? = some (.cells (hrow M T v F) 27 (0, 0))) :
    (results Tryd.f9 tmps).run Tryd.prog w = .ok (.tuple #[.agg (hrow M T v F), tmps.getD 3 undef, tmps.getD 4 undef]) w := by
  have h2' : tmps[2]?.getD undef = .pointer (some ⟨g, 0, none⟩) := by simpa using h2
  have hl := run_loadVar_row (P := Tryd.prog) w g 27 27 (hrow M T v F) (0, 0) _ hg Tryd.underlying27 rfl (hinfo _ _ _ _)
  simp only [results, parse_res]
  simp [Result.andThen, h2', asAddr, hl]
set_option maxRecDepth 100000 in
set_option maxHeartbeats 8000000 in
/-- What Parse answers. -/
theorem parse_any (s : ByteArray) (w : World) (hs : s.size ≤ 1000000) : Calls Tryd.prog 9 #[.string s] w fun e W' => PaR s W' e ∧ Below w.heap.size w W' := by
  obtain ⟨w0, hw0⟩ : ∃ x, w.alloc (.cells zrow 27) = x := ⟨_, rfl⟩
  have HB0 := hid (show Below w.heap.size w w0 from hw0 ▸ (Below.refl _ w).alloc (Nat.le_refl _) _)
  have HZ0 := hid (show w0.heap[w.heap.size]? = some (.cells zrow 27 (0, 0)) from hw0 ▸ heap_alloc_last w _)
  have hs0 : w0.heap.size = w.heap.size + 1 := by rw [← hw0]; simp
  have HN := hid (new_any w0)
  have HFD := hid (fun W p h => feed_any w0.heap.size W p [] s h hs)
  have HPA : Hid (∀ e W', (∃ hv, e = .returned (.tuple #[hv, .int .i64 (if (go s0 (bn s)).e = 0 ∧ (go s0 (bn s)).d = false then 0 else (go s0 (bn s)).n : Nat), .int .i64 (if (go s0 (bn s)).e = 0 ∧ (go s0 (bn s)).d = false then 7 else (go s0 (bn s)).e : Nat)]) ∧ HdIs W' hv (if (go s0 (bn s)).d = true then (go s0 (bn s)).h else h0)) → PaR s W' e) := hid (fun e W' h => h)
  have HDE := hid (go_de (bn s) s0 (.inl rfl))
  go_enter Tryd.func9, Tryd.ntmps9
  go_upto_region 1 with fail
  show Code.wp _ _ _ _ (World.alloc w (.cells zrow 27))
  rw [hw0]
  clear hw0
  go_wp2_with fail
  refine HN.out.mono ?_
  rintro e w1 ⟨⟨a, rfl, hR1⟩, hB1⟩
  have HR1 := hid hR1
  have HZ1 := hid (kept HZ0.out hB1)
  have HB1 := hid (HB0.out.trans (hB1.mono (by omega)))
  have hs1 := hB1.size
  clear hR1 hB1 HZ0 HB0 HN
  go_wp2_with fail
  refine (HFD.out _ _ HR1.out).mono ?_
  rintro e w2 ⟨hF, hR2, hB2, _⟩
  obtain rfl := fer_nil hF
  have HGT : Hid (go s0 (took [] (bn s)) = go s0 (bn s)) := hid (by rw [took_go, if_neg over_nil, List.nil_append])
  have HR2 := hid hR2
  have HZ2 := hid ((hB2.block w.heap.size (by omega)).trans HZ1.out)
  have HB2 := hid (HB1.out.trans (hB2.mono (by omega)))
  have hs2 := hB2.size
  have HHD := hid (fun W h => head_own w0.heap.size W (.pointer (some a)) (took [] (bn s)) h)
  rw [HGT.out] at HHD
  clear hF hR2 hB2 HZ1 HB1 HR1 HFD
  obtain ⟨G, hG⟩ : ∃ G, go s0 (bn s) = G := ⟨_, rfl⟩
  rw [hG] at HHD HPA HDE
  simp only [hG]
  clear hG
  have hw2 : w.heap.size < w2.heap.size := by omega
  by_cases hE : G.e = 0
  · have hEz : (((G.e : Nat) : Int) != 0) = false := by simp [hE]
    cases hD : G.d with
    | false =>
      rw [hD] at HHD HPA
      simp only [hE, and_self, if_true] at HPA
      go_wp2_with (refine wpList_store_row rfl 27 (.tmp 2) (.tmp 24) rfl w.heap.size zrow rfl rfl 27 _ HZ2.out (hinfo _ _ _ _) rfl (by simp [hrow, Value.oneCell']) ?_)
      refine bodyPost_ret (results_parse rfl (setRow_heap _ _ _ _ _ _ HZ2.out)) rfl ?_
      exact ⟨HPA.out _ _ ⟨_, rfl, HdIs.zero _⟩, below_setRow HB2.out (Nat.le_refl _) _⟩
    | true =>
      rw [hD] at HHD HPA
      simp only [hE] at HPA
      go_wp2_with fail
      refine (HHD.out _ HR2.out).mono ?_
      rintro e w3 ⟨⟨hv, rfl, hH⟩, _, hB3⟩
      obtain ⟨M, T, v, F, fs, rfl, hF, hfl, hv0, hv1, hh⟩ := hH
      obtain ⟨a3, c3, rfl⟩ := hF.form
      have HF := hid hF
      have HZ3 := hid (kept HZ2.out hB3)
      have HB3 := hid (HB2.out.trans (hB3.mono (by omega)))
      have HH := hid hh
      clear hF hB3 hh HHD
      go_wp2_with (refine wpList_store_row rfl 27 (.tmp 2) (.tmp 26) rfl w.heap.size (hrow M T v (.slice a3 fs.length c3)) rfl rfl 27 _ HZ3.out (hinfo _ _ _ _) rfl (by simp [hrow, Value.oneCell']) ?_)
      refine bodyPost_ret (results_parse rfl (setRow_heap _ _ _ _ _ _ HZ3.out)) rfl ?_
      refine ⟨HPA.out _ _ ⟨_, rfl, ?_⟩, below_setRow HB3.out (Nat.le_refl _) _⟩
      exact HdO.is (base := w2.heap.size) ⟨M, T, v, _, fs, rfl, HF.out.keepT fun g cur hg _ => setRow_other _ _ _ _ (by omega), hfl, hv0, hv1, HH.out⟩
  · have hEz : (((G.e : Nat) : Int) != 0) = true := by simpa using hE
    have hD : G.d = false := by rcases HDE.out with h | h; exact h; exact absurd h hE
    rw [hD] at HHD HPA
    simp only [hE, false_and, if_false] at HPA
    go_wp2_with (refine wpList_store_row rfl 27 (.tmp 2) (.tmp 18) rfl w.heap.size zrow rfl rfl 27 _ HZ2.out (hinfo _ _ _ _) rfl (by simp [hrow, Value.oneCell']) ?_)
    refine bodyPost_ret (results_parse rfl (setRow_heap _ _ _ _ _ _ HZ2.out)) rfl ?_
    exact ⟨HPA.out _ _ ⟨_, rfl, HdIs.zero _⟩, below_setRow HB2.out (Nat.le_refl _) _⟩
end Go.Proofs.YtacbfbhhhofifaaDoor.Hd
