/- LexReads. (Stage 15.) -/
import Derived.Test.YtphkdagapoonjaaGreatDoorZLPX
import Derived.Test.YtphkdagapoonjaaGreatDoorLRX
namespace Go.Proofs.YtphkdagapoonjaaGreatDoor.Lx
open Go.RowKit
open Go.Proofs.YtphkdagapoonjaaGreatDoor.F (bn bn_length bn_append bn_inj bn_get byte_bd hid bn_extract isEmpty_false isEmpty_true str_eq same_eq)
open Go.Proofs.YtphkdagapoonjaaGreatDoor.U (nx enc encs scal val Bytes)
set_option linter.unusedVariables false

theorem tks_inj : ∀ {ts us : List Tb}, ts.map Tb.tk = us.map Tb.tk → (∀ t ∈ ts, 0 ≤ t.n ∧ 0 ≤ t.a) → (∀ t ∈ us, 0 ≤ t.n ∧ 0 ≤ t.a) → ts = us
  | [], [], _, _, _ => rfl
  | [], _ :: _, h, _, _ => by simp at h
  | _ :: _, [], h, _, _ => by simp at h
  | ⟨k, x, n, a⟩ :: ts, ⟨k', x', n', a'⟩ :: us, h, h1, h2 => by
    rw [List.map_cons, List.map_cons, List.cons.injEq] at h
    obtain ⟨e, e2⟩ := h
    unfold Tb.tk at e
    simp only [Tk.mk.injEq] at e
    obtain ⟨rfl, e1, e3, e4⟩ := e
    obtain rfl := bn_inj e1
    have p := h1 _ (List.mem_cons_self ..)
    have q := h2 _ (List.mem_cons_self ..)
    simp only at p q
    rw [tks_inj e2 (fun t ht => h1 t (List.mem_cons_of_mem _ ht)) (fun t ht => h2 t (List.mem_cons_of_mem _ ht)), show n = n' by omega, show a = a' by omega]
theorem sm_self : ∀ (ts : List Tb), sm false ts ts = true
  | [] => rfl
  | t :: ts => by
    rw [sm, sm_self ts]
    unfold sj
    rw [eqt_iff.2 rfl]
    simp
theorem lex_len {s : ByteArray} (hs : s.size ≤ 1000000) : (lex (bn s)).1.length ≤ 100000000 := by
  by_cases h : (lex (bn s)).2.1 = 0
  · obtain ⟨r, e, _, hok, hl⟩ := lex_inv (s := bn s) (U.bn_bytes s) h
    have h1 := (ok_small hok).1
    rw [bn_length] at hl
    rw [e]
    show r.length ≤ _
    omega
  · rw [lex_none h]; simp
set_option maxRecDepth 100000 in
set_option maxHeartbeats 8000000 in
theorem reads_any (s : ByteArray) (w : World) (hsz : s.size ≤ maxLen) (G : Gl w) : Calls Tryz.prog 3 #[.string s] w fun e w' => e = .returned (.bool true) ∧ Below w.heap.size w w' := by
  have hsz2 : s.size ≤ 9223372036854775807 := hsz
  have HAL := hid (fun W (h : Below w.heap.size w W) => alive_any W (G.below h))
  have HL := hid (fun W (h : Below w.heap.size w W) (hs : s.size ≤ 1000000) => lex_any s hs W (G.below h))
  have HR := hid (fun W (hs : s.size ≤ 1000000) => rlex_any s hs W)
  have HLN := hid (fun (hs : s.size ≤ 1000000) => lex_len hs)
  clear G
  by_cases ho : (8192 < s.size ∧ s.size ≤ 65536) ∨ 65635 < s.size
  · have H1 := hid (HAL.out w (Below.refl _ _))
    have hq : ((8192 : Int) < (s.size : Int) ∧ (s.size : Int) ≤ 65536) ∨ ((8192 : Int) < (s.size : Int) ∧ ¬ (s.size : Int) ≤ 65536 ∧ (65635 : Int) < (s.size : Int)) := by omega
    clear HAL HL HR HLN ho
    rcases hq with ⟨q1, q2⟩ | ⟨q1, q2, q3⟩
    all_goals
      go_enter Tryz.func3, Tryz.ntmps3
      go_wp2_with fail
      refine H1.out.mono ?_
      rintro e w2 ⟨rfl, B2⟩
      have HE := hid B2
      clear H1 B2
      go_wp2
      go_ret
      exact ⟨rfl, HE.out⟩
  have hs6 : s.size ≤ 1000000 := by omega
  have H1 := hid (HL.out w (Below.refl _ _) hs6)
  have hlen := HLN.out hs6
  obtain ⟨⟨r, e0, e1, e2⟩, hX⟩ : ∃ X, lex (bn s) = X := ⟨_, rfl⟩
  rw [hX] at hlen
  simp only at hlen
  have hq : (¬ (8192 : Int) < (s.size : Int) ∧ ¬ (65635 : Int) < (s.size : Int)) ∨ ((8192 : Int) < (s.size : Int) ∧ ¬ (s.size : Int) ≤ 65536 ∧ ¬ (65635 : Int) < (s.size : Int)) := by omega
  clear HL ho HLN
  have HX := hid hX
  clear hX
  have HQ : ∀ w, (binOp .eql 26 (.agg #[.int .i64 e0, .int .i64 e1, .int .i64 e2]) (.agg #[.int .i64 e0, .int .i64 e1, .int .i64 e2])).run Tryz.prog w = .ok (.bool true) w := fun w => (eql_flt e0 e1 e2 e0 e1 e2 w).trans (by simp)
  rcases hq with ⟨q1, q3⟩ | ⟨q1, q2, q3⟩
  all_goals
    go_enter Tryz.func3, Tryz.ntmps3
    go_wp2_with fail
    refine H1.out.mono ?_
    rintro e w1 ⟨hq, B1⟩
    rw [HX.out] at hq
    obtain ⟨v, ts, hown, hts, hnn, rfl⟩ := hq
    simp only at hts
    obtain ⟨a, c, rfl⟩ := hown.form
    have HT := hid hown.at
    have HB := hid B1
    clear hown B1 H1
    have HB1 : Hid (Below w.heap.size w (w1.alloc (.cells #[.int .i64 e0, .int .i64 e1, .int .i64 e2] 26))) := HB.out.alloc HB.out.size _
    have HA1 : Hid (Below w1.heap.size w1 (w1.alloc (.cells #[.int .i64 e0, .int .i64 e1, .int .i64 e2] 26))) := (Below.refl _ _).alloc (Nat.le_refl _) _
    have p0 : (w1.alloc (.cells #[.int .i64 e0, .int .i64 e1, .int .i64 e2] 26)).cell? ⟨w1.heap.size, 0, none⟩ = some (.int .i64 e0) := World.cell?_alloc_new w1 _ _ 0
    have p1 : (w1.alloc (.cells #[.int .i64 e0, .int .i64 e1, .int .i64 e2] 26)).cell? ⟨w1.heap.size, 1, none⟩ = some (.int .i64 e1) := World.cell?_alloc_new w1 _ _ 1
    have p2 : (w1.alloc (.cells #[.int .i64 e0, .int .i64 e1, .int .i64 e2] 26)).cell? ⟨w1.heap.size, 2, none⟩ = some (.int .i64 e2) := World.cell?_alloc_new w1 _ _ 2
    have H2 := hid (HR.out (w1.alloc (.cells #[.int .i64 e0, .int .i64 e1, .int .i64 e2] 26)) hs6)
    go_wp2_with fail
    refine H2.out.mono ?_
    rintro e w2 ⟨hq, B2⟩
    rw [HX.out] at hq
    obtain ⟨v2, us, hown2, hus, hnn2, rfl⟩ := hq
    simp only at hus
    obtain ⟨a2, c2, rfl⟩ := hown2.form
    obtain rfl : ts = us := tks_inj (hts.trans hus.symm) hnn hnn2
    have hlt : ts.length ≤ 100000000 := by rw [← hts, List.length_map] at hlen; exact hlen
    replace p0 := keeps B2 p0
    replace p1 := keeps B2 p1
    replace p2 := keeps B2 p2
    have HB2 : Hid (Below w1.heap.size w1 w2) := HA1.out.trans (B2.mono HA1.out.size)
    have HU := hid hown2.at
    have HW2 : Hid (Below w.heap.size w w2) := HB1.out.trans (B2.mono HB1.out.size)
    clear hown2 B2 H2 HA1 HB1 hts hus hnn hnn2 HX HR HB hlen
    have HB3 : Hid (Below w.heap.size w (w2.alloc (.cells #[.int .i64 e0, .int .i64 e1, .int .i64 e2] 26))) := HW2.out.alloc HW2.out.size _
    have HA3 : Hid (Below w2.heap.size w2 (w2.alloc (.cells #[.int .i64 e0, .int .i64 e1, .int .i64 e2] 26))) := (Below.refl _ _).alloc (Nat.le_refl _) _
    have HA4 : Hid (Below w1.heap.size w1 (w2.alloc (.cells #[.int .i64 e0, .int .i64 e1, .int .i64 e2] 26))) := HB2.out.alloc HB2.out.size _
    have s0 : (w2.alloc (.cells #[.int .i64 e0, .int .i64 e1, .int .i64 e2] 26)).cell? ⟨w2.heap.size, 0, none⟩ = some (.int .i64 e0) := World.cell?_alloc_new w2 _ _ 0
    have s1 : (w2.alloc (.cells #[.int .i64 e0, .int .i64 e1, .int .i64 e2] 26)).cell? ⟨w2.heap.size, 1, none⟩ = some (.int .i64 e1) := World.cell?_alloc_new w2 _ _ 1
    have s2 : (w2.alloc (.cells #[.int .i64 e0, .int .i64 e1, .int .i64 e2] 26)).cell? ⟨w2.heap.size, 2, none⟩ = some (.int .i64 e2) := World.cell?_alloc_new w2 _ _ 2
    replace p0 := keeps HA3.out p0
    replace p1 := keeps HA3.out p1
    replace p2 := keeps HA3.out p2
    have H3 := hid (rsame_any a a2 ts.length ts.length c c2 ts ts false (w2.alloc (.cells #[.int .i64 e0, .int .i64 e1, .int .i64 e2] 26)) (HT.out.below HA4.out) (HU.out.below HA3.out) (by omega) (by omega))
    rw [sm_self] at H3
    clear HA3 HA4 HB2 HW2 HT HU
    go_wp2_with fail
    refine H3.out.mono ?_
    rintro e w3 ⟨rfl, B3⟩
    have HB4 : Hid (Below w.heap.size w w3) := HB3.out.trans (B3.mono HB3.out.size)
    have H4 := hid (HAL.out w3 HB4.out)
    clear H3 B3 HB3 p0 p1 p2 s0 s1 s2 HAL HQ
    go_wp2_with fail
    refine H4.out.mono ?_
    rintro e w4 ⟨rfl, B4⟩
    have HE : Hid (Below w.heap.size w w4) := HB4.out.trans (B4.mono HB4.out.size)
    clear H4 B4 HB4
    go_wp2
    go_ret
    exact ⟨rfl, HE.out⟩
end Go.Proofs.YtphkdagapoonjaaGreatDoor.Lx
