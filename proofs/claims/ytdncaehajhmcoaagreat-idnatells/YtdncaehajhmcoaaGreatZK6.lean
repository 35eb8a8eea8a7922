/- Texts of one layer, one behind the other: KN KO. -/
import Derived.Test.YtdncaehajhmcoaaGreatZK2
import Derived.Test.YtdncaehajhmcoaaGreatZK3
import Derived.Test.YtdncaehajhmcoaaGreatZK5
import Derived.Test.YtdncaehajhmcoaaGreatZL3
/- ASCII's contract. -/
namespace Go.Proofs.YtdncaehajhmcoaaGreat.I
open Go.RowKit
set_option linter.unusedVariables false

theorem parts_bad {xs : List (List Int × Int)} {ts : List ByteArray} (h : PartsR xs ts) : ¬ BadP xs := by
  rintro ⟨x, hx, hb⟩
  obtain ⟨i, hi, rfl⟩ := List.mem_iff_getElem.1 hx
  have h1 := h.2 i hi
  rw [List.getElem?_eq_getElem hi] at h1
  rcases hb with hb | hb
  · exact hb h1.1
  · exact hb ⟨_, h1.2⟩
theorem prc_eachK (X : List Int) (hy : Bool) (hX : X.length ≤ 10000) (hs : Scs X) : ∀ x ∈ prc X hy, (0 ≤ x.2 ∧ x.2 ≤ 768) ∧ x.1.length ≤ 10000 ∧ Scs x.1 := by
  have k : ∀ x ∈ (spl X).map (fun l => one l hy), 0 ≤ x.2 ∧ x.2 ≤ 512 ∧ x.1.length ≤ 10000 := fun x hx => by
    obtain ⟨l, hl, rfl⟩ := List.mem_map.1 hx
    exact ⟨one_nonneg l hy, one_le l hy, one_len l hy (by have := spl_each X l hl; omega)⟩
  intro x hx
  have hsc := prc_scal hy hs x hx
  unfold prc at hx
  split at hx
  · obtain ⟨y, hy', rfl⟩ := List.mem_map.1 hx
    have := k y hy'
    refine ⟨⟨?_, ?_⟩, this.2.2, hsc⟩
    · unfold bid1
      simp only
      split <;> omega
    · unfold bid1
      simp only
      split <;> omega
  · have := k x hx
    exact ⟨⟨this.1, by omega⟩, this.2.2, hsc⟩
theorem prc_pos (X : List Int) (hy : Bool) : 0 < (prc X hy).length := by
  rw [prc_len]
  obtain ⟨a, t, h⟩ := spl_ne X
  rw [h]; simp
theorem parts_size {xs : List (List Int × Int)} {ts : List ByteArray} (h : PartsR xs ts) (hx : ∀ x ∈ xs, x.1.length ≤ 10000) : ∀ t ∈ ts, t.size ≤ 20000 := by
  intro t ht
  obtain ⟨i, hi, rfl⟩ := List.mem_iff_getElem.1 ht
  have hi' : i < xs.length := by rw [← h.1]; exact hi
  have h1 := (h.2 i hi').2
  rw [List.getElem?_eq_getElem hi', List.getElem?_eq_getElem hi] at h1
  have h2 := part_len h1
  have h3 := hx _ (List.getElem_mem hi')
  rw [← U.bn_length]
  simp only [Option.getD_some] at h2
  omega
theorem aw_no {w0 w : World} {vo vf : Value} {n : Nat} {vs : List Value} {xs : List (List Int × Int)} (hn : n ≤ 10000) (hp : 0 < n) (hb : ∀ x ∈ xs, (0 ≤ x.2 ∧ x.2 ≤ 768) ∧ x.1.length ≤ 10000 ∧ Scs x.1) (hP : Pr w0 w vo vf n vs xs) (hbad : BadP xs) :
    Calls Tryz.prog 23 #[vo, vf] w fun e W' => e = .panicked (wrongV 70) ∧ Below w.heap.size w W' :=
  (allWritten_any w0 w vo vf n vs xs hn hp hb hP).mono (by
    rintro e W' ⟨⟨ts, cap, h, _⟩ | ⟨_, h⟩, hB⟩
    · exact absurd hbad (parts_bad h)
    · exact ⟨h, hB⟩)
theorem aw_yes {w0 w : World} {vo vf : Value} {n : Nat} {vs : List Value} {xs : List (List Int × Int)} (hn : n ≤ 10000) (hp : 0 < n) (hb : ∀ x ∈ xs, (0 ≤ x.2 ∧ x.2 ≤ 768) ∧ x.1.length ≤ 10000 ∧ Scs x.1) (hP : Pr w0 w vo vf n vs xs) (hbad : ¬ BadP xs) :
    Calls Tryz.prog 23 #[vo, vf] w fun e W' => (∃ ts cap, PartsR xs ts ∧ e = .returned (.slice (some ⟨w.heap.size, 0, none⟩) n cap) ∧ W'.ownsRow w.heap.size 9 1 (.slice (some ⟨w.heap.size, 0, none⟩) n cap) n (ts.map Value.string)) ∧ Below w.heap.size w W' :=
  (allWritten_any w0 w vo vf n vs xs hn hp hb hP).mono (by
    rintro e W' ⟨h | ⟨h, _⟩, hB⟩
    · exact ⟨h, hB⟩
    · exact absurd h hbad)
theorem asc_end {W : World} {Bn Be : Nat} {t : ByteArray} {r : Int} (hn : Boxed W Bn 9 (.string t)) (he : Boxed W Be 23 (.int .i64 r)) (tmps : Array Value) (h6 : tmps.getD 6 undef = .pointer (some ⟨Bn, 0, none⟩)) (h7 : tmps.getD 7 undef = .pointer (some ⟨Be, 0, none⟩)) :
    (results Tryz.f9 tmps).run Tryz.prog W = .ok (.tuple #[.string t, .int .i64 r]) W := by
  have c1 := hn.cell
  have c2 := he.cell
  rw [results_cells (p := 6) (u := 7) (ty := 9) (tz := 23) rfl, h6, h7]
  have hl1 : (loadVar 9 ⟨Bn, 0, none⟩).run Tryz.prog W = .ok (.string t) W := by go_simp
  have hl2 : (loadVar 23 ⟨Be, 0, none⟩).run Tryz.prog W = .ok (.int .i64 r) W := by go_simp
  simp [asAddr, Result.andThen, hl1, hl2]
/-- How a panic ends. -/
theorem asc_caught {R : Ending → World → Prop} {Bn Be B : Nat} {x : ByteArray} {y r : Int} {w : World} (tmps : Array Value) (h6 : tmps.getD 6 undef = .pointer (some ⟨Bn, 0, none⟩)) (h7 : tmps.getD 7 undef = .pointer (some ⟨Be, 0, none⟩)) (b1 : B ≤ Bn) (b2 : B ≤ Be) (hn : Boxed w Bn 9 (.string x)) (he : Boxed w Be 23 (.int .i64 y))
    (h : ∀ w', Below B w w' → R (.returned (.tuple #[.string ⟨#[]⟩, .int .i64 r])) w') :
    Leaves Tryz.prog Tryz.f9 tmps R [{ target := .fn (.func 22) #[.pointer (some ⟨Bn, 0, none⟩), .pointer (some ⟨Be, 0, none⟩)], args := #[] }] (.panicking (wrongV r)) w := by
  refine leaves_cons (f := 22) (args := #[.pointer (some ⟨Bn, 0, none⟩), .pointer (some ⟨Be, 0, none⟩)]) (by simp) (by simp [go_sem]) ?_
  refine (catch_panicking B Bn Be b1 b2 x y r w hn he).mono ?_
  rintro e u' w' ⟨rfl, rfl, h1, h2, hB⟩
  show Leaves _ _ _ _ [] (settle _) w'
  simp only [settle]
  exact ⟨_, asc_end h1 h2 tmps h6 h7, h w' hB⟩
/-- How nothing is caught. -/
theorem asc_idle {R : Ending → World → Prop} {Bn Be : Nat} {t : ByteArray} {r : Int} {w : World} (tmps : Array Value) (h6 : tmps.getD 6 undef = .pointer (some ⟨Bn, 0, none⟩)) (h7 : tmps.getD 7 undef = .pointer (some ⟨Be, 0, none⟩)) (hn : Boxed w Bn 9 (.string t)) (he : Boxed w Be 23 (.int .i64 r))
    (h : R (.returned (.tuple #[.string t, .int .i64 r])) w) :
    Leaves Tryz.prog Tryz.f9 tmps R [{ target := .fn (.func 22) #[.pointer (some ⟨Bn, 0, none⟩), .pointer (some ⟨Be, 0, none⟩)], args := #[] }] .returning w := by
  refine leaves_cons (f := 22) (args := #[.pointer (some ⟨Bn, 0, none⟩), .pointer (some ⟨Be, 0, none⟩)]) (by simp) (by simp [go_sem]) ?_
  refine (catch_idle Bn Be w).mono ?_
  rintro e u' w' ⟨rfl, rfl, rfl⟩
  show Leaves _ _ _ _ [] (settle _) w'
  simp only [settle]
  exact ⟨_, asc_end hn he tmps h6 h7, h⟩
theorem mf_no {g n c : Nat} {ts : List ByteArray} {w : World} (hn : ts.length = n) (hp : 0 < n) (hnc : n ≤ c) (hnb : n ≤ 10000) (hb : ∀ t ∈ ts, t.size ≤ 20000) (hc : ∀ j, j < n → w.cell? ⟨g, j, none⟩ = some (.string (ts[j]?.getD ⟨#[]⟩))) (hbad : badL (ts.map U.bn)) :
    Calls Tryz.prog 24 #[.slice (some ⟨g, 0, none⟩) n c] w fun e W' => e = .panicked (wrongV 4) ∧ Below w.heap.size w W' :=
  (mustFit_any g n c ts w hn hp hnc hnb hb hc).mono (by
    rintro e W' ⟨⟨h, _⟩ | ⟨_, h⟩, hB⟩
    · exact absurd hbad h
    · exact ⟨h, hB⟩)
theorem mf_yes {g n c : Nat} {ts : List ByteArray} {w : World} (hn : ts.length = n) (hp : 0 < n) (hnc : n ≤ c) (hnb : n ≤ 10000) (hb : ∀ t ∈ ts, t.size ≤ 20000) (hc : ∀ j, j < n → w.cell? ⟨g, j, none⟩ = some (.string (ts[j]?.getD ⟨#[]⟩))) (hbad : ¬ badL (ts.map U.bn)) :
    Calls Tryz.prog 24 #[.slice (some ⟨g, 0, none⟩) n c] w fun e W' => e = .returned (.tuple #[]) ∧ Below w.heap.size w W' :=
  (mustFit_any g n c ts w hn hp hnc hnb hb hc).mono (by
    rintro e W' ⟨⟨_, h⟩ | ⟨h, _⟩, hB⟩
    · exact ⟨h, hB⟩
    · exact absurd h hbad)
set_option maxRecDepth 100000 in
set_option maxHeartbeats 8000000 in
theorem ascii_bad (s : ByteArray) (hy long : Bool) (w : World) (hs : s.size ≤ 4096) (hbad : BadP (prc (Mp (U.dec (U.bn s))) hy)) :
    Calls Tryz.prog 9 #[.string s, .bool hy, .bool long] w fun e W' => AscR (prc (Mp (U.dec (U.bn s))) hy) long w e W' := by
  have hmf : ∀ (fn : Fn) (first cap : Array Value) (w : World), (Instr.makeFunc fn first cap).run Tryz.prog w = .ok (.func fn first cap) w := fun _ _ _ _ => rfl
  have HPR := hid (fun W => process_any s hy W hs)
  have hml := Mp_lenl (U.bn s) (U.bn_bytes s)
  rw [U.bn_length] at hml
  have HSX := Mp_scal _ (dec_scs _ (U.bn_bytes s))
  have HEA := hid (prc_eachK _ hy (by omega) HSX)
  have hpos := prc_pos (Mp (U.dec (U.bn s))) hy
  have hxl := prc_len (Mp (U.dec (U.bn s))) hy
  have hsl := spl_length (Mp (U.dec (U.bn s)))
  have HBAD := hid hbad
  obtain ⟨xs, hxs⟩ : ∃ xs, prc (Mp (U.dec (U.bn s))) hy = xs := ⟨_, rfl⟩
  rw [hxs] at HPR HEA hpos hxl HBAD ⊢
  obtain ⟨n, hn⟩ : ∃ n, xs.length = n := ⟨_, rfl⟩
  unfold ProcR at HPR
  rw [hn] at HPR hpos hxl
  have hnb : n ≤ 8193 := by omega
  clear hxs hn hxl hsl hml hbad HSX
  go_enter_defers Tryz.func9, Tryz.ntmps9
  go_wp2_with (first
    | (go_at_call 23; refine (aw_no (by omega) hpos HEA.out HP.out HBAD.out).mono ?_; rintro e w4 ⟨rfl, B4⟩; have HB4 := hid B4; clear B4)
    | (go_at_call 13; refine (HPR.out _).mono ?_; rintro e w3 ⟨v3, f3, vs, rfl, hP⟩; have HP := hid hP; obtain ⟨a1, c1, rfl⟩ := own_sh22 hP.out; obtain ⟨a2, c2, rfl⟩ := own_sh16 hP.flt; clear hP))
  have bN := (Boxed.new w 9 (.string ⟨#[]⟩)).alloc (.cells #[.int .i64 0] 23)
  have bE := Boxed.new (w.alloc (.cells #[.string ⟨#[]⟩] 9)) 23 (.int .i64 0)
  rw [World.size_alloc] at bE
  have hb0 : Below w.heap.size w ((w.alloc (.cells #[.string ⟨#[]⟩] 9)).alloc (.cells #[.int .i64 0] 23)) := ((Below.refl _ w).alloc (Nat.le_refl _) _).alloc (by simp) _
  have hB3 := HP.out.be
  have hB4 := hB3.trans (HB4.out.mono hB3.size)
  have bN4 : Boxed w4 _ _ _ := (hB4.block _ bN.lt).trans bN
  have bE4 : Boxed w4 _ _ _ := (hB4.block _ bE.lt).trans bE
  have hB := hb0.trans (hB4.mono (by simp; omega))
  refine asc_caught _ rfl rfl (Nat.le_refl _) (Nat.le_succ _) bN4 bE4 (fun w' hw' => ?_)
  exact ⟨⟨_, _, rfl, .inl ⟨HBAD.out, rfl, rfl⟩⟩, hB.trans hw'⟩
set_option maxRecDepth 100000 in
set_option maxHeartbeats 8000000 in
theorem ascii_good (s : ByteArray) (hy long : Bool) (w : World) (hs : s.size ≤ 4096) (hbad : ¬ BadP (prc (Mp (U.dec (U.bn s))) hy)) :
    Calls Tryz.prog 9 #[.string s, .bool hy, .bool long] w fun e W' => AscR (prc (Mp (U.dec (U.bn s))) hy) long w e W' := by
  have hmf : ∀ (fn : Fn) (first cap : Array Value) (w : World), (Instr.makeFunc fn first cap).run Tryz.prog w = .ok (.func fn first cap) w := fun _ _ _ _ => rfl
  have HPR := hid (fun W => process_any s hy W hs)
  have hml := Mp_lenl (U.bn s) (U.bn_bytes s)
  rw [U.bn_length] at hml
  have HSX := Mp_scal _ (dec_scs _ (U.bn_bytes s))
  have HEA := hid (prc_eachK _ hy (by omega) HSX)
  have hpos := prc_pos (Mp (U.dec (U.bn s))) hy
  have hxl := prc_len (Mp (U.dec (U.bn s))) hy
  have hsl := spl_length (Mp (U.dec (U.bn s)))
  have HBAD := hid hbad
  obtain ⟨xs, hxs⟩ : ∃ xs, prc (Mp (U.dec (U.bn s))) hy = xs := ⟨_, rfl⟩
  rw [hxs] at HPR HEA hpos hxl HBAD ⊢
  obtain ⟨n, hn⟩ : ∃ n, xs.length = n := ⟨_, rfl⟩
  have HN := hid hn
  unfold ProcR at HPR
  rw [hn] at HPR hpos hxl
  have hnb : n ≤ 8193 := by omega
  clear hxs hn hxl hsl hml hbad HSX
  go_enter_defers Tryz.func9, Tryz.ntmps9
  go_upto_if 19 with (first
    | (go_at_call 23; refine (aw_yes (by omega) hpos HEA.out HP.out HBAD.out).mono ?_; rintro e w4 ⟨⟨ts, cap, hpt, rfl, hr⟩, B4⟩; have HB4 := hid B4; have HPT := hid hpt; have HR := hid hr; clear B4 hpt hr)
    | (go_at_call 13; refine (HPR.out _).mono ?_; rintro e w3 ⟨v3, f3, vs, rfl, hP⟩; have HP := hid hP; obtain ⟨a1, c1, rfl⟩ := own_sh22 hP.out; obtain ⟨a2, c2, rfl⟩ := own_sh16 hP.flt; clear hP))
  have bN := (Boxed.new w 9 (.string ⟨#[]⟩)).alloc (.cells #[.int .i64 0] 23)
  have bE := Boxed.new (w.alloc (.cells #[.string ⟨#[]⟩] 9)) 23 (.int .i64 0)
  rw [World.size_alloc] at bE
  have hb0 : Below w.heap.size w ((w.alloc (.cells #[.string ⟨#[]⟩] 9)).alloc (.cells #[.int .i64 0] 23)) := ((Below.refl _ w).alloc (Nat.le_refl _) _).alloc (by simp) _
  have hB3 := HP.out.be
  have hB4 := hB3.trans (HB4.out.mono hB3.size)
  have HBN := hid (show Boxed w4 _ _ _ from (hB4.block _ bN.lt).trans bN)
  have HBE := hid (show Boxed w4 _ _ _ from (hB4.block _ bE.lt).trans bE)
  have HBB := hid (hb0.trans (hB4.mono (by simp; omega)))
  have HTL : Hid (ts.length = n) := by
    show _ = _
    have h1 := HPT.out.1
    have h2 := HN.out
    omega
  have HSZ := hid (parts_size HPT.out (fun x hx => (HEA.out x hx).2.1))
  have HCC : Hid (∀ j, j < n → w4.cell? ⟨w3.heap.size, j, none⟩ = some (.string (ts[j]?.getD ⟨#[]⟩))) := fun j hj => by
    have h1 := HR.out.cellAt j (by omega)
    rw [List.getElem?_map, List.getElem?_eq_getElem (show j < ts.length by have := HTL.out; omega)] at h1
    rw [List.getElem?_eq_getElem (show j < ts.length by have := HTL.out; omega)]
    exact h1
  have hcapp : n ≤ cap := by
    rcases HR.out.2 with ⟨h, _⟩ | ⟨g, cap', cur, h, _, _, hnc, _⟩
    · cases h
    · cases h; exact hnc
  have HJL : Hid ((join (ts.map U.bn)).length ≤ 1000000000) := by
    show _ ≤ _
    have h1 := join_len (ts.map U.bn) 20000 (fun l hl => by
      obtain ⟨t, ht, rfl⟩ := List.mem_map.1 hl
      rw [U.bn_length]
      exact HSZ.out t ht)
    rw [List.length_map, HTL.out] at h1
    have h2 : n * (20000 + 1) ≤ 10000 * 20001 := Nat.mul_le_mul (by omega) (by omega)
    omega
  clear bN bE hb0 hB3 hB4 HR HP HB4 HEA HPR
  cases long with
  | false =>
    have HJ := hid (join_any w3.heap.size cap n ts HTL.out w4 HCC.out hpos hcapp (by omega) HJL.out)
    go_wp2_with (go_at_call 25; refine HJ.out.mono ?_; rintro e w6 ⟨⟨t, rfl, ht⟩, B6⟩; have HT := hid ht; have bN6 : Boxed w6 _ _ _ := ((B6.block _ HBN.out.lt).trans HBN.out); have bE6 : Boxed w6 _ _ _ := ((B6.block _ HBE.out.lt).trans HBE.out); have cn6 := bN6.cell; have fn6 := bN6.frozen; have ce6 := bE6.cell; have fe6 := bE6.frozen; have ce7 := (boxed_setA bE6 bN6 (by decide) (.string t)).cell; have fe7 := (boxed_setA bE6 bN6 (by decide) (.string t)).frozen; have HN6 := hid bN6; have HE6 := hid bE6; have HB6 := hid (HBB.out.trans (B6.mono HBB.out.size)); clear ht B6 bN6 bE6)
    have xE := boxed_setA HE6.out HN6.out (by decide) (.string t)
    have xN := HN6.out.set (.string t)
    refine asc_idle _ rfl rfl (boxed_setA xN xE (by decide) (.int .i64 0)) (xE.set (.int .i64 0)) ?_
    exact ⟨⟨_, _, rfl, .inr ⟨ts, HPT.out, .inr ⟨fun h => absurd h.1 (by decide), HT.out, rfl⟩⟩⟩, (HB6.out.setCell (p := ⟨w.heap.size, 0, none⟩) (Nat.le_refl _) _).setCell (p := ⟨w.heap.size + 1, 0, none⟩) (Nat.le_succ _) _⟩
  | true =>
    by_cases hbl : badL (ts.map U.bn)
    · have HM := hid (mf_no HTL.out hpos hcapp (by omega) HSZ.out HCC.out hbl)
      have HBL := hid hbl
      clear hbl
      go_wp2_with (go_at_call 24; refine HM.out.mono ?_; rintro e w5 ⟨rfl, B5⟩; have HB5 := hid B5; clear B5)
      have bN5 : Boxed w5 _ _ _ := (HB5.out.block _ HBN.out.lt).trans HBN.out
      have bE5 : Boxed w5 _ _ _ := (HB5.out.block _ HBE.out.lt).trans HBE.out
      refine asc_caught _ rfl rfl (Nat.le_refl _) (Nat.le_succ _) bN5 bE5 (fun w' hw' => ?_)
      exact ⟨⟨_, _, rfl, .inr ⟨ts, HPT.out, .inl ⟨rfl, HBL.out, rfl, rfl⟩⟩⟩, (HBB.out.trans (HB5.out.mono HBB.out.size)).trans hw'⟩
    · have HM := hid (mf_yes HTL.out hpos hcapp (by omega) HSZ.out HCC.out hbl)
      have HBL := hid hbl
      clear hbl
      have HJW : Hid (∀ W, Below w4.heap.size w4 W → Calls Tryz.prog 25 #[.slice (some ⟨w3.heap.size, 0, none⟩) n cap, .string ⟨#[46]⟩] W fun e W' => (∃ t, e = .returned (.string t) ∧ U.bn t = join (ts.map U.bn)) ∧ Below W.heap.size W W') := fun W hW =>
        join_any w3.heap.size cap n ts HTL.out W (fun j hj => (hW.cell (p := ⟨w3.heap.size, j, none⟩) (U.lt_of_cell (HCC.out j hj))).trans (HCC.out j hj)) hpos hcapp (by omega) HJL.out
      go_upto_region 7 with (go_at_call 24; refine HM.out.mono ?_; rintro e w5 ⟨rfl, B5⟩; have HB5 := hid B5; clear B5)
      have HJ := hid (HJW.out w5 HB5.out)
      replace HBN := hid (show Boxed w5 _ _ _ from (HB5.out.block _ HBN.out.lt).trans HBN.out)
      replace HBE := hid (show Boxed w5 _ _ _ from (HB5.out.block _ HBE.out.lt).trans HBE.out)
      replace HBB := hid (HBB.out.trans (HB5.out.mono HBB.out.size))
      go_wp2_with (go_at_call 25; refine HJ.out.mono ?_; rintro e w6 ⟨⟨t, rfl, ht⟩, B6⟩; have HT := hid ht; have bN6 : Boxed w6 _ _ _ := ((B6.block _ HBN.out.lt).trans HBN.out); have bE6 : Boxed w6 _ _ _ := ((B6.block _ HBE.out.lt).trans HBE.out); have cn6 := bN6.cell; have fn6 := bN6.frozen; have ce6 := bE6.cell; have fe6 := bE6.frozen; have ce7 := (boxed_setA bE6 bN6 (by decide) (.string t)).cell; have fe7 := (boxed_setA bE6 bN6 (by decide) (.string t)).frozen; have HN6 := hid bN6; have HE6 := hid bE6; have HB6 := hid (HBB.out.trans (B6.mono HBB.out.size)); clear ht B6 bN6 bE6)
      have xE := boxed_setA HE6.out HN6.out (by decide) (.string t)
      have xN := HN6.out.set (.string t)
      refine asc_idle _ rfl rfl (boxed_setA xN xE (by decide) (.int .i64 0)) (xE.set (.int .i64 0)) ?_
      exact ⟨⟨_, _, rfl, .inr ⟨ts, HPT.out, .inr ⟨fun h => HBL.out h.2, HT.out, rfl⟩⟩⟩, (HB6.out.setCell (p := ⟨w.heap.size, 0, none⟩) (Nat.le_refl _) _).setCell (p := ⟨w.heap.size + 1, 0, none⟩) (Nat.le_succ _) _⟩
theorem ascii_any (s : ByteArray) (hy long : Bool) (w : World) (hs : s.size ≤ 4096) :
    Calls Tryz.prog 9 #[.string s, .bool hy, .bool long] w fun e W' => AscR (prc (Mp (U.dec (U.bn s))) hy) long w e W' := by
  by_cases h : BadP (prc (Mp (U.dec (U.bn s))) hy)
  · exact ascii_bad s hy long w hs h
  · exact ascii_good s hy long w hs h
set_option maxRecDepth 100000 in
set_option maxHeartbeats 2000000 in
theorem ascii_long (s : ByteArray) (hy long : Bool) (w : World) (h1 : 4096 < s.size) (h2 : s.size ≤ 1000000) :
    Calls Tryz.prog 9 #[.string s, .bool hy, .bool long] w fun e W' => e = .returned (.tuple #[.string ⟨#[]⟩, .int .i64 4]) ∧ Below w.heap.size w W' := by
  have HN := hid ((Boxed.new w 9 (.string ⟨#[]⟩)).alloc (.cells #[.int .i64 4] 23))
  have bE := Boxed.new (w.alloc (.cells #[.string ⟨#[]⟩] 9)) 23 (.int .i64 4)
  rw [World.size_alloc] at bE
  have HE := hid bE
  clear bE
  go_enter_defers Tryz.func9, Tryz.ntmps9
  go_wp2
  exact ⟨_, asc_end HN.out HE.out _ rfl rfl, rfl, ((Below.refl _ w).alloc (Nat.le_refl _) _).alloc (by simp) _⟩
end Go.Proofs.YtdncaehajhmcoaaGreat.I
/- Unicode's contract. -/
namespace Go.Proofs.YtdncaehajhmcoaaGreat.I
open Go.RowKit
set_option linter.unusedVariables false

/-! ### Is any fault there? -/
def nz (f : Int) : Bool := decide (f ≠ 0)
set_option maxRecDepth 100000 in
set_option maxHeartbeats 1000000 in
theorem nz_any (f : Int) (w : World) : Calls Tryz.prog 31 #[.int .u16 f] w fun e W' => e = .returned (.bool (nz f)) ∧ W' = w := by
  have HZ : Hid (nz f = decide (f ≠ 0)) := rfl
  obtain ⟨z, hz⟩ : ∃ z, nz f = z := ⟨_, rfl⟩
  rw [hz] at HZ ⊢
  clear hz
  go_enter Tryz.func31, Tryz.ntmps31
  go_wp2
  go_ret
  refine ⟨?_, rfl⟩
  rw [HZ.out]
  by_cases h : f = 0
  · subst h; rfl
  · have e1 : (f != 0) = true := by simpa using h
    simp [e1, h]
set_option maxRecDepth 100000 in
set_option maxHeartbeats 2000000 in
theorem indexNz_any (a : Option Addr) (n c : Nat) (fs : List Int) (hn : fs.length = n) (w : World) (hlen : n ≤ 100000) (hf : 0 < n → ∃ g, a = some ⟨g, 0, none⟩ ∧ ∀ j, j < n → w.cell? ⟨g, j, none⟩ = some (.int .u16 (fs[j]?.getD 0))) :
    Calls Tryz.prog 59 #[.slice a n c, .func (.func 31) #[] #[]] w fun e W' => L.IdxR (fs.any nz) e ∧ W' = w := by
  have HF := hid hf
  have HNO := hid (L.any_no (p := nz) (L := fs))
  have HYES := hid (L.any_yes (p := nz) (L := fs))
  rw [hn] at HNO HYES
  obtain ⟨R, hR⟩ : ∃ R, fs.any nz = R := ⟨_, rfl⟩
  rw [hR] at HNO HYES ⊢
  clear hf hn hR
  go_enter Tryz.func59, Tryz.ntmps59
  go_wp2_with fail
  go_loop [8] (fun v8 => ∃ k : Nat, k ≤ n ∧ v8 = .int .i64 k ∧ Hid (∀ j, j < k → nz (fs[j]?.getD 0) = false)) (fun v8 => n - (intOf v8).toNat)
  case atStart => exact ⟨0, Nat.zero_le _, rfl, (fun j hj => by omega)⟩
  case round =>
    obtain ⟨k, hk, rfl, HA⟩ := hrel
    by_cases hlt : k < n
    · obtain ⟨g, rfl, hc⟩ := HF.out (by omega)
      have hck := hc k hlt
      have HX := hid (HYES.out k hlt)
      have HS : Hid (nz (fs[k]?.getD 0) = false → ∀ j, j < k + 1 → nz (fs[j]?.getD 0) = false) := fun h j hj => by
        by_cases e : j = k
        · rw [e]; exact h
        · exact HA.out j (by omega)
      have HC := hid (nz_any (fs[k]?.getD 0) w)
      obtain ⟨t, ht⟩ : ∃ t, nz (fs[k]?.getD 0) = t := ⟨_, rfl⟩
      rw [ht] at HX HS HC
      obtain ⟨y, hy⟩ : ∃ y, fs[k]?.getD 0 = y := ⟨_, rfl⟩
      rw [hy] at hck HC
      clear hy ht hc
      cases t with
      | true =>
        have HR := hid (HX.out rfl)
        go_wp2_with (go_at_call 31; refine HC.out.mono ?_; rintro e w1 ⟨rfl, hw1⟩; obtain rfl := hw1.symm)
        go_ret
        exact ⟨⟨k, rfl, by omega, by omega, by rw [HR.out]; exact decide_eq_true (by omega)⟩, rfl⟩
      | false =>
        have HR := hid (HS.out rfl)
        go_wp2_with (go_at_call 31; refine HC.out.mono ?_; rintro e w1 ⟨rfl, hw1⟩; obtain rfl := hw1.symm)
        exact ⟨⟨k + 1, by omega, by go_num, HR⟩, by simp [intOf]; omega⟩
    · have HR := hid (HNO.out (fun j hj => HA.out j (by omega)))
      go_wp2
      go_ret
      exact ⟨⟨-1, rfl, by omega, by omega, by rw [HR.out]; rfl⟩, rfl⟩
set_option maxRecDepth 100000 in
set_option maxHeartbeats 2000000 in
theorem containsNz_any (a : Option Addr) (n c : Nat) (fs : List Int) (hn : fs.length = n) (w : World) (hlen : n ≤ 100000) (hf : 0 < n → ∃ g, a = some ⟨g, 0, none⟩ ∧ ∀ j, j < n → w.cell? ⟨g, j, none⟩ = some (.int .u16 (fs[j]?.getD 0))) :
    Calls Tryz.prog 30 #[.slice a n c, .func (.func 31) #[] #[]] w fun e W' => e = .returned (.bool (fs.any nz)) ∧ W' = w := by
  have HC := hid (indexNz_any a n c fs hn w hlen hf)
  obtain ⟨A, hA⟩ : ∃ A, fs.any nz = A := ⟨_, rfl⟩
  rw [hA] at HC ⊢
  clear hA hf hn
  go_enter Tryz.func30, Tryz.ntmps30
  go_wp2_with fail
  refine HC.out.mono ?_
  rintro e w1 ⟨⟨k, rfl, h1, h2, h3⟩, rfl⟩
  have H3 := hid h3
  clear h3
  go_wp2
  go_ret
  exact ⟨by rw [← H3.out]; rfl, rfl⟩
theorem noF_nz (xs : List (List Int × Int)) : noF xs = !((xs.map (·.2)).any nz) := by
  unfold noF
  rw [any_map]
  induction xs with
  | nil => rfl
  | cons x xs ih =>
    rw [List.all_cons, List.any_cons, ih]
    by_cases h : x.2 = 0
    · simp [nz, h]
    · simp [nz, h]

/-! ### Unicode -/
/-- The labels as bytes. -/
def EncsR (xs : List (List Int × Int)) (ts : List ByteArray) : Prop := ts.map U.bn = xs.map fun x => U.encs x.1
theorem EncsR.len {xs : List (List Int × Int)} {ts : List ByteArray} (h : EncsR xs ts) : ts.length = xs.length := by
  have := congrArg List.length h
  simpa using this
set_option maxRecDepth 100000 in
set_option maxHeartbeats 16000000 in
theorem unicode_any (s : ByteArray) (hy : Bool) (w : World) (hs : s.size ≤ 4096) :
    Calls Tryz.prog 11 #[.string s, .bool hy] w fun e W' => (∃ t, e = .returned (.tuple #[.string t, .bool (noF (prc (Mp (U.dec (U.bn s))) hy))]) ∧ U.bn t = U.encs (join ((prc (Mp (U.dec (U.bn s))) hy).map (·.1)))) ∧ Below w.heap.size w W' := by
  have HPR := hid (fun W => process_any s hy W hs)
  have hml := Mp_lenl (U.bn s) (U.bn_bytes s)
  rw [U.bn_length] at hml
  have HSX := Mp_scal _ (dec_scs _ (U.bn_bytes s))
  have HEA := hid (prc_eachK _ hy (by omega) HSX)
  have hpos := prc_pos (Mp (U.dec (U.bn s))) hy
  have hxl := prc_len (Mp (U.dec (U.bn s))) hy
  have hsl := spl_length (Mp (U.dec (U.bn s)))
  obtain ⟨xs, hxs⟩ : ∃ xs, prc (Mp (U.dec (U.bn s))) hy = xs := ⟨_, rfl⟩
  rw [hxs] at HPR HEA hpos hxl ⊢
  obtain ⟨n, hn⟩ : ∃ n, xs.length = n := ⟨_, rfl⟩
  have HN := hid hn
  unfold ProcR at HPR
  rw [hn] at HPR hpos hxl
  have hnb : n ≤ 8193 := by omega
  have HNF := hid (noF_nz xs)
  obtain ⟨nf, hnf⟩ : ∃ nf, noF xs = nf := ⟨_, rfl⟩
  rw [hnf] at HNF ⊢
  have hmk := fun W => run_make_row' (P := Tryz.prog) 46 9 (.string ⟨#[]⟩) 16 Tryz.underlying46 infoS rfl .i64 .i64 n (by omega) (by omega) W
  clear hxs hn hxl hsl hml HSX hnf
  go_enter Tryz.func11, Tryz.ntmps11
  go_wp2_with (go_at_call 13; refine (HPR.out _).mono ?_; rintro e w1 ⟨v1, f1, vs, rfl, hP⟩; have HP := hid hP; obtain ⟨a1, c1, rfl⟩ := own_sh22 hP.out; obtain ⟨a2, c2, rfl⟩ := own_sh16 hP.flt; clear hP)
  have H0 : Hid ((w1.alloc (.cells (madeCells #[.string ⟨#[]⟩] n) 9)).ownsRow w1.heap.size 9 1 (.slice (some ⟨w1.heap.size, 0, none⟩) n n) n (pad [] n)) := by
    refine ⟨by simp [pad], .inr ⟨w1.heap.size, n, _, rfl, Nat.le_refl _, heap_alloc_last w1 _, Nat.le_refl _, by unfold maxLen; omega, by rw [size_madeCells]; simp, ?_⟩⟩
    rw [made_str]
    simp [pad]
  go_loopw [25] (fun v25 wr => ∃ (k : Nat) (ts : List ByteArray), k ≤ n ∧ v25 = .int .i64 k ∧ Hid (ts.length = k) ∧ Hid (EncsR (xs.take k) ts) ∧ Hid (wr.ownsRow w1.heap.size 9 1 (.slice (some ⟨w1.heap.size, 0, none⟩) n n) n (pad ts n)) ∧ Hid (Below w1.heap.size w1 wr)) (fun v25 _ => n - (intOf v25).toNat)
  case atStart => exact ⟨0, [], Nat.zero_le _, rfl, rfl, rfl, H0, (Below.refl _ w1).alloc (Nat.le_refl _) _⟩
  case round =>
    obtain ⟨k, ts, hk, rfl, HTL, HET, HR, HBE⟩ := hrel
    by_cases hlt : k < n
    · have hkx : k < xs.length := by rw [HN.out]; exact hlt
      have HT := hid (take_x xs k hkx)
      have hb := HEA.out _ (List.getElem_mem hkx)
      obtain ⟨g1, rfl, hc1, -⟩ := row_cell HP.out.out k hlt
      have hel := HP.out.els.2 k (by rw [List.length_map]; exact hkx)
      rw [List.getElem?_map, List.getElem?_eq_getElem hkx] at hel
      replace hel : El w1 (vs[k]?.getD undef) xs[k].1 := hel
      obtain ⟨ae, ce, hue⟩ := el_shape hel
      rw [hue] at hc1 hel
      obtain ⟨⟨lk, fk⟩, hlf⟩ : ∃ y, xs[k] = y := ⟨_, rfl⟩
      rw [hlf] at hel hc1 hb HT
      simp only at hel hc1 hb
      obtain ⟨q, hq⟩ : ∃ q, lk.length = q := ⟨_, rfl⟩
      have HQ := hid hq
      rw [hq] at hc1 hel hb
      have HSC := hid hb.2.2
      have hb2 := hb.2.1
      have d1 : wr.cell? ⟨g1, k, none⟩ = some (.slice ae q ce) := (HBE.out.cell (p := ⟨g1, k, none⟩) (U.lt_of_cell hc1)).trans hc1
      have z1 := HBE.out.size
      have HENC := hid (U.encode_any _ lk (by rw [HQ.out]; omega) wr (hel.below HBE.out).ints)
      clear hel hue hlf hq hc1 hb
      go_wp2_with (go_at_call 29; refine HENC.out.mono ?_; rintro e w2 ⟨⟨t, r, rfl, hE⟩, B2⟩; have HE := hid hE; have HB2 := hid (HBE.out.trans (B2.mono HBE.out.size)); have HR2 := hid (U.ownsRow_below HR.out B2 (Nat.le_refl _)); have hcw := (HR2.out.cellAt k (by omega)); rw [pad_get ts n k HTL.out hlt] at hcw; obtain ⟨gw, ew, -, hfw⟩ := row_cell HR2.out k hlt; cases ew; clear hE B2)
      have hst := HR2.out.stored k (.string t)
      rw [pad_set ts n k HTL.out hlt] at hst
      have HST := hid hst
      clear hst
      go_roundw
      case rel =>
        refine ⟨k + 1, ts ++ [t], by omega, by go_num, by show _ = _; rw [List.length_append, HTL.out]; rfl, ?_, HST.out.1, HB2.out.setCell (p := ⟨w1.heap.size, k, none⟩) (Nat.le_refl _) _⟩
        show EncsR _ _
        unfold EncsR
        rw [HT.out, List.map_append, List.map_append, show ts.map U.bn = _ from HET.out]
        congr 1
        rcases HE.out with ⟨_, _, h⟩ | ⟨h, _⟩
        · show [U.bn t] = [U.encs lk]
          rw [h]
        · rw [scs_all.1 HSC.out] at h; cases h
      case measure => simp [intOf]; omega
    · obtain rfl : k = n := by omega
      have hkk : xs.take k = xs := List.take_of_length_le (by rw [HN.out]; exact Nat.le_refl _)
      rw [hkk] at HET
      rw [pad_full ts k HTL.out] at HR
      have HCC : Hid (∀ j, j < k → wr.cell? ⟨w1.heap.size, j, none⟩ = some (.string (ts[j]?.getD ⟨#[]⟩))) := fun j hj => by
        have h1 := HR.out.cellAt j (by omega)
        rw [List.getElem?_map, List.getElem?_eq_getElem (show j < ts.length by have := HTL.out; omega)] at h1
        rw [List.getElem?_eq_getElem (show j < ts.length by have := HTL.out; omega)]
        exact h1
      have HJN : Hid (join (ts.map U.bn) = U.encs (join (xs.map (·.1)))) := by
        show _ = _
        rw [join_encs, List.map_map, show ts.map U.bn = _ from HET.out]; rfl
      have HJL : Hid ((join (ts.map U.bn)).length ≤ 1000000000) := by
        show _ ≤ _
        have h1 := join_len (ts.map U.bn) 40000 (fun l hl => by
          rw [show ts.map U.bn = _ from HET.out] at hl
          obtain ⟨x, hx, rfl⟩ := List.mem_map.1 hl
          have h2 := U.encs_len x.1
          have h3 := (HEA.out x hx).2.1
          omega)
        rw [List.length_map, HTL.out] at h1
        have h2 : k * (40000 + 1) ≤ 8193 * 40001 := Nat.mul_le_mul (by omega) (by omega)
        omega
      have HJ := hid (join_any w1.heap.size k k ts HTL.out wr HCC.out hpos (Nat.le_refl _) (by omega) HJL.out)
      rw [HJN.out] at HJ
      have HFC : Hid (∀ W, Below w1.heap.size w1 W → Calls Tryz.prog 30 #[.slice a2 k c2, .func (.func 31) #[] #[]] W fun e W' => e = .returned (.bool (!nf)) ∧ W' = W) := fun W hW => by
        have h1 := containsNz_any a2 k c2 (xs.map (·.2)) (by rw [List.length_map]; exact HN.out) W (by omega) (fun hp => by
          obtain ⟨g, e, _⟩ := row_cell HP.out.flt 0 hp
          refine ⟨g, e, fun j hj => ?_⟩
          subst e
          obtain ⟨g', e', hc', _⟩ := row_cell HP.out.flt j hj
          cases e'
          rw [List.getElem?_map, List.getElem?_eq_getElem (show j < xs.length by rw [HN.out]; exact hj)] at hc'
          rw [List.getElem?_map, List.getElem?_eq_getElem (show j < xs.length by rw [HN.out]; exact hj)]
          exact (hW.cell (p := ⟨g, j, none⟩) (U.lt_of_cell hc')).trans hc')
        have e : (!nf) = (xs.map (·.2)).any nz := by rw [HNF.out, Bool.not_not]
        rw [e]
        exact h1
      clear hkk
      go_wp2_with (first
        | (go_at_call 30; refine (HFC.out _ HB6.out).mono ?_; rintro e w7 ⟨rfl, hw7⟩; obtain rfl := hw7.symm)
        | (go_at_call 25; refine HJ.out.mono ?_; rintro e w6 ⟨⟨t, rfl, ht⟩, B6⟩; have HT := hid ht; have HB6 := hid (HBE.out.trans (B6.mono HBE.out.size)); clear ht B6))
      go_ret2
      refine ⟨⟨t, ?_, HT.out⟩, HP.out.be.trans (HB6.out.mono HP.out.be.size)⟩
      cases nf <;> rfl
set_option maxRecDepth 100000 in
set_option maxHeartbeats 2000000 in
theorem unicode_long (s : ByteArray) (hy : Bool) (w : World) (h1 : 4096 < s.size) (h2 : s.size ≤ 1000000) :
    Calls Tryz.prog 11 #[.string s, .bool hy] w fun e W' => e = .returned (.tuple #[.string ⟨#[]⟩, .bool false]) ∧ Below w.heap.size w W' := by
  go_enter Tryz.func11, Tryz.ntmps11
  go_wp2
  go_ret2
  exact ⟨rfl, Below.refl _ _⟩
end Go.Proofs.YtdncaehajhmcoaaGreat.I
