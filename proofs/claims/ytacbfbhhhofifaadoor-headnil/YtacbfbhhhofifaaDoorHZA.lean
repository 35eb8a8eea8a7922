/- Heads, rows of numbers that came in. (Stage 19.) -/
import Derived.Test.YtacbfbhhhofifaaDoorHLA
import Derived.Deep.SlicePairs
import Derived.OpenShut
import Derived.ChangeSlices
namespace Go.Proofs.YtacbfbhhhofifaaDoor.Hd
open Go.RowKit Go.ChangeShapes Go.WideShapes
open Go.Proofs.YtacbfbhhhofifaaDoor.F (bn bn_length bn_append bn_inj bn_get byte_bd hid bn_extract isEmpty_false isEmpty_true str_eq same_eq)
set_option linter.unusedVariables false

theorem und_fld : ∃ f0 f1 : Field, Tryd.prog.underlying 40 = some (.struct #[f0, f1]) ∧ f0.type = 9 ∧ f1.type = 9 ∧ f0.offset = 0 ∧ f1.offset = 1 :=
  ⟨_, _, Tryd.underlying40, rfl, rfl, rfl, rfl⟩
theorem und_head : ∃ f0 f1 f2 f3 : Field, Tryd.prog.underlying 27 = some (.struct #[f0, f1, f2, f3]) ∧ f0.type = 9 ∧ f1.type = 9 ∧ f2.type = 5 ∧ f3.type = 25 ∧ f0.offset = 0 ∧ f1.offset = 1 ∧ f2.offset = 2 ∧ f3.offset = 3 :=
  ⟨_, _, _, _, Tryd.underlying27, rfl, rfl, rfl, rfl, rfl, rfl, rfl, rfl⟩
theorem mem_all {H : Type} {P : Program} {e : TypeId} {k : Nat} {d : DataW H} : ∀ {r : List (DataW H)}, d ∈ r → k ∈ d.weights P e → k ∈ DataW.weightsAll P e r
  | [], h, _ => by cases h
  | x :: r, h, hk => by
    rw [DataW.weightsAll]
    rcases List.mem_cons.1 h with rfl | h
    · exact List.mem_append_left _ hk
    · exact List.mem_append_right _ (mem_all h hk)
theorem fld_w0 {H : Type} {d1 : DataW H} {s : List UInt8} : s.length ∈ (DataW.agg [.lit (.string s), d1]).weights Tryd.prog 40 := by
  rw [DataW.weights]
  simp only [Tryd.underlying40]
  simp [DataW.weightsEach, DataW.weights]
theorem fld_w1 {H : Type} {d0 : DataW H} {s : List UInt8} : s.length ∈ (DataW.agg [d0, .lit (.string s)]).weights Tryd.prog 40 := by
  rw [DataW.weights]
  simp only [Tryd.underlying40]
  simp [DataW.weightsEach, DataW.weights]
theorem slice_weight {H : Type} {d : DataW H} {l r : List (DataW H)} {k : Nat} (hd : d ∈ l) (hk : k ∈ d.weights Tryd.prog 40) : k ∈ (DataW.slice l r).weights Tryd.prog 25 := by
  rw [DataW.weights]
  simp only [Tryd.underlying25]
  exact List.mem_cons_of_mem _ (List.mem_append_left _ (mem_all hd hk))
theorem slice_count {H : Type} {l r : List (DataW H)} : (l.length + r.length) * Tryd.prog.bytesOf 40 ∈ (DataW.slice l r).weights Tryd.prog 25 := by
  rw [DataW.weights]
  simp only [Tryd.underlying25]
  exact List.mem_cons_self
theorem head_w0 {H : Type} {d1 d2 d3 : DataW H} {s : List UInt8} : s.length ∈ (DataW.agg [.lit (.string s), d1, d2, d3]).weights Tryd.prog 27 := by
  rw [DataW.weights]
  simp only [Tryd.underlying27]
  simp [DataW.weightsEach, DataW.weights]
theorem head_w1 {H : Type} {d0 d2 d3 : DataW H} {s : List UInt8} : s.length ∈ (DataW.agg [d0, .lit (.string s), d2, d3]).weights Tryd.prog 27 := by
  rw [DataW.weights]
  simp only [Tryd.underlying27]
  simp [DataW.weightsEach, DataW.weights]
theorem head_w3 {H : Type} {d0 d1 d2 d3 : DataW H} {k : Nat} (h : k ∈ d3.weights Tryd.prog 25) : k ∈ (DataW.agg [d0, d1, d2, d3]).weights Tryd.prog 27 := by
  rw [DataW.weights]
  simp only [Tryd.underlying27]
  simp [DataW.weightsEach, h]
set_option maxRecDepth 100000 in
theorem open_flds {H : Type} {enc : TypeId × Value → H} {w : World} {base : Nat} {spare : Nat → Bool} {held : Bool} {fuel : Nat} {cs : List Value} {x : DataW H × List MemPlace} {B : Nat}
    (h : DataW.trod enc Tryd.prog w base spare held fuel 25 cs = some x) (hw : ∀ k ∈ x.1.weights Tryd.prog 25, k ≤ B) : ∃ (F : Value) (l : List Fb), cs = [F] ∧ FldAt w F l ∧ l.length ≤ B ∧ ∀ f ∈ l, f.x.size ≤ B ∧ f.y.size ≤ B := by
  rcases Go.Deep.open_slice Tryd.underlying25 h with ⟨rfl, _⟩ | ⟨a, len, cap, m, n, D, Pl, rfl, hb, hl, hm, hmm, rfl, hx⟩
  · exact ⟨.slice none 0 0, [], rfl, ⟨none, 0, rfl, fun _ => rfl, fun h => (by simp at h)⟩, Nat.zero_le _, fun t ht => (by cases ht)⟩
  · have hlm : len ≤ m := by rw [hmm]; split <;> omega
    obtain ⟨f0, f1, hu, e0, e1, o0, o1⟩ := und_fld
    have ce : Tryd.prog.cellsOf 40 = 2 := by kernel_rfl
    have cS : Tryd.prog.cellsOf 9 = 1 := by kernel_rfl
    have each : ∀ i, i < len → ∃ t : Fb, (t.x.size ≤ B ∧ t.y.size ≤ B) ∧ ∀ c, c < 2 → w.cell? (a.add (i * 2 + c)) = (cells2 t)[c]? := by
      intro i hi
      obtain ⟨cs', h1, h2⟩ := hx i (by omega)
      rw [ce] at h1
      obtain ⟨_, hlen, hcell⟩ := World.cells?_some h1
      obtain ⟨xs, k, hk, hxy, _, hxl, hf⟩ := DataW.trod_struct hu h2
      match xs, hxl, cs', hlen with
      | [y0, y1], _, [v0, v1], _ =>
        have g0 := hf 0 f0 rfl
        have g1 := hf 1 f1 rfl
        simp [o0, o1, e0, e1, cS] at g0 g1
        have d0 := hcell 0 (by omega)
        have d1 := hcell 1 (by omega)
        rw [Go.Deep.add_add] at d0 d1
        obtain ⟨x0, r0, q0, w0⟩ := DataW.trod_string Tryd.underlying9 g0
        obtain ⟨x1, r1, q1, w1⟩ := DataW.trod_string Tryd.underlying9 g1
        obtain rfl := (List.cons.inj r0).1
        obtain rfl := (List.cons.inj r1).1
        have hd : D i = .agg [y0.1, y1.1] := congrArg Prod.fst hxy
        rw [congrArg Prod.fst q0, congrArg Prod.fst q1] at hd
        have hmem : D i ∈ (List.range len).map D := List.mem_map.2 ⟨i, List.mem_range.2 hi, rfl⟩
        refine ⟨⟨x0, x1⟩, ⟨?_, ?_⟩, fun c hc => ?_⟩
        · exact hw _ (slice_weight hmem (by rw [hd]; exact fld_w0 (s := x0.data.toList)))
        · exact hw _ (slice_weight hmem (by rw [hd]; exact fld_w1 (s := x1.data.toList)))
        unfold cells2
        obtain rfl | rfl : c = 0 ∨ c = 1 := by omega
        · exact d0
        · exact d1
    haveI : Inhabited Fb := ⟨z2⟩
    obtain ⟨q, hq⟩ := Go.Deep.choose_lt each
    have hql : ((List.range len).map q).length = len := by simp
    have hqg : ∀ j, j < len → ((List.range len).map q)[j]?.getD z2 = q j := fun j hj => by
      rw [List.getElem?_map, List.getElem?_range hj]; rfl
    have hB : len ≤ B := by
      have h1 := hw _ slice_count
      rw [show Tryd.prog.bytesOf 40 = 32 by kernel_rfl] at h1
      simp only [List.length_map, List.length_range] at h1
      omega
    refine ⟨_, (List.range len).map q, rfl, ⟨some a, cap, by rw [hql], fun h => (by cases h), fun h0 => ?_⟩, by rw [hql]; exact hB, fun t ht => ?_⟩
    · rw [hql] at h0 ⊢
      obtain ⟨b, off, spot⟩ := a
      have hs := (hq 0 h0).2 0 (by decide)
      have hspot : spot = none := by
        have e : (cells2 (q 0))[0]? = some (.string (q 0).x) := rfl
        rw [e] at hs
        simpa [Addr.add] using World.cell?_spot hs
      subst hspot
      refine ⟨b, off, rfl, fun j c hj hc => ?_⟩
      rw [hqg j hj, ← (hq j hj).2 c hc, Go.WideShapes.add_plain]
    · obtain ⟨j, hj, rfl⟩ := List.mem_map.1 ht
      exact (hq j (List.mem_range.1 hj)).1
set_option maxRecDepth 100000 in
/-- A head that came in. -/
theorem open_head {H : Type} {enc : TypeId × Value → H} {w : World} {base b0 : Nat} {sp : Nat → Bool} {held : Bool} {r : Reach} {v : Value} {d : DataW H} {ps : List MemPlace} {B : Nat}
    (hv : Value.okWide Tryd.prog w r b0 27 v) (h : DataW.Trod enc Tryd.prog w base sp held 27 v d ps) (hw : ∀ k ∈ d.weights Tryd.prog 27, k ≤ B) :
    ∃ (M T : ByteArray) (k : Int) (F : Value) (fs : List Fb), v = .agg #[.string M, .string T, .int .u8 k, F] ∧ FldAt w F fs ∧ 0 ≤ k ∧ k ≤ 255 ∧ M.size ≤ B ∧ T.size ≤ B ∧ fs.length ≤ B ∧ ∀ f ∈ fs, f.x.size ≤ B ∧ f.y.size ≤ B := by
  obtain ⟨f0, f1, f2, f3, hu, e0, e1, e2, e3, o0, o1, o2, o3⟩ := und_head
  obtain ⟨cs, rfl, hsz⟩ := okWide_struct hu hv
  obtain ⟨fuel, hf⟩ := h
  have cH : Tryd.prog.cellsOf 27 = 4 := by kernel_rfl
  have c8 : Tryd.prog.cellsOf 5 = 1 := by kernel_rfl
  have cS : Tryd.prog.cellsOf 9 = 1 := by kernel_rfl
  have cF : Tryd.prog.cellsOf 25 = 1 := by kernel_rfl
  rw [cH] at hsz
  replace hf : DataW.trod enc Tryd.prog w base sp held fuel 27 cs.toList = some (d, ps) := hf
  obtain ⟨xs, n, _, hxy, _, hxl, hg⟩ := DataW.trod_struct hu hf
  have hcl : cs.toList.length = 4 := by simpa using hsz
  obtain ⟨l, hl⟩ : ∃ l, cs.toList = l := ⟨_, rfl⟩
  rw [hl] at hcl hg
  match xs, hxl, l, hcl with
  | [y0, y1, y2, y3], _, [v0, v1, v2, v3], _ =>
    have g0 := hg 0 f0 rfl
    have g1 := hg 1 f1 rfl
    have g2 := hg 2 f2 rfl
    have g3 := hg 3 f3 rfl
    simp [o0, o1, o2, o3, e0, e1, e2, e3, c8, cS, cF] at g0 g1 g2 g3
    obtain ⟨x0, r0, q0, w0⟩ := DataW.trod_string Tryd.underlying9 g0
    obtain ⟨x1, r1, q1, w1⟩ := DataW.trod_string Tryd.underlying9 g1
    obtain ⟨k, r2, q2, w2⟩ := DataW.trod_int Tryd.underlying5 g2
    obtain rfl := (List.cons.inj r0).1
    obtain rfl := (List.cons.inj r1).1
    obtain rfl := (List.cons.inj r2).1
    have hd : d = .agg [y0.1, y1.1, y2.1, y3.1] := congrArg Prod.fst hxy
    rw [congrArg Prod.fst q0, congrArg Prod.fst q1] at hd
    subst hd
    obtain ⟨F, fs, hF, hat, hfl, hfw⟩ := open_flds g3 (fun k hk => hw k (head_w3 hk))
    obtain rfl := (List.cons.inj hF).1
    have hk : 0 ≤ k ∧ k ≤ 255 := by
      simp [Lit.wf, IntKind.min, IntKind.max, IntKind.bits, IntKind.signed] at w2
      omega
    refine ⟨x0, x1, k, v3, fs, ?_, hat, hk.1, hk.2, hw _ (head_w0 (s := x0.data.toList)), hw _ (head_w1 (s := x1.data.toList)), hfl, hfw⟩
    congr 1
    exact Array.toList_inj.1 (by rw [hl])
theorem nat_of {t : IntKind} {N : Int} {m : Int} (h0 : 0 ≤ m) (h1 : m < N) : ∃ a : Nat, m = a ∧ (a : Int) < N := ⟨m.toNat, by omega, by omega⟩
theorem u16_of {m : Int} (h : (Lit.int .u16 m).wf = true) : 0 ≤ m ∧ m.toNat < 65536 := by
  simp [Lit.wf, IntKind.min, IntKind.max, IntKind.bits, IntKind.signed] at h
  omega
theorem u8_of {m : Int} (h : (Lit.int .u8 m).wf = true) : 0 ≤ m ∧ m.toNat < 256 := by
  simp [Lit.wf, IntKind.min, IntKind.max, IntKind.bits, IntKind.signed] at h
  omega
theorem ints_count {H : Type} {t e : TypeId} {l r : List (DataW H)} (hu : Tryd.prog.underlying t = some (.slice e)) : (l.length + r.length) * Tryd.prog.bytesOf e ∈ (DataW.slice l r).weights Tryd.prog t := by
  rw [DataW.weights]
  simp only [hu]
  exact List.mem_cons_self
set_option maxRecDepth 100000 in
theorem open_nums {H : Type} {enc : TypeId × Value → H} {W : World} {base : Nat} {sp : Nat → Bool} {held : Bool} {t e : TypeId} {K : IntKind} {v : Value} {d : DataW H} {ps : List MemPlace} {B N : Nat}
    (ht : Tryd.prog.underlying t = some (.slice e)) (he : Tryd.prog.underlying e = some (.int K)) (hc : Tryd.prog.cellsOf e = 1) (hby : 1 ≤ Tryd.prog.bytesOf e) (hN : 0 < N) (hwf : ∀ m : Int, (Lit.int K m).wf = true → 0 ≤ m ∧ m.toNat < N) (hv1 : v.cells = #[v])
    (h : DataW.Trod enc Tryd.prog W base sp held t v d ps) (hw : ∀ k ∈ d.weights Tryd.prog t, k ≤ B) : ∃ l : List Nat, (∃ (a : Option Addr) (cap : Nat), v = .slice a l.length cap ∧ (0 < l.length → ∃ b off, a = some ⟨b, off, none⟩ ∧ ∀ j, j < l.length → W.cell? ⟨b, off + j, none⟩ = some (.int K ((l[j]?.getD 0 : Nat) : Int)))) ∧ (∀ j : Nat, l[j]?.getD 0 < N) ∧ l.length ≤ B := by
  obtain ⟨fuel, hf⟩ := h
  rw [hv1] at hf
  rcases open_ints ht he hc hf with ⟨hcs, _⟩ | ⟨x, len, cap, zs, hcs, _, hl, hm, hz, hx, hcell, hwz⟩
  · obtain rfl := (List.cons.inj hcs).1
    exact ⟨[], ⟨none, 0, rfl, fun h => absurd h (by decide)⟩, fun j => by simpa using hN, Nat.zero_le _⟩
  · obtain rfl := (List.cons.inj hcs).1
    have hzl : len ≤ zs.length := by rw [hz]; split <;> omega
    have hlt : ((zs.take len).map Int.toNat).length = len := by rw [List.length_map, List.length_take]; omega
    have hget : ∀ j, j < len → ((zs.take len).map Int.toNat)[j]?.getD 0 = (zs.getD j 0).toNat ∧ zs.getD j 0 ∈ zs := fun j hj => by
      have hj2 : j < zs.length := by omega
      have e1 : zs.getD j 0 = zs[j] := by rw [List.getD_eq_getElem?_getD, List.getElem?_eq_getElem hj2]; rfl
      rw [List.getElem?_map, List.getElem?_take_of_lt hj, List.getElem?_eq_getElem hj2, e1]
      exact ⟨rfl, List.getElem_mem _⟩
    have hd : d = _ := congrArg Prod.fst hx
    refine ⟨(zs.take len).map Int.toNat, ⟨some x, cap, by rw [hlt], fun h0 => ?_⟩, fun j => ?_, ?_⟩
    · rw [hlt] at h0 ⊢
      obtain ⟨b, off, spot⟩ := x
      have hs := hcell 0 (by omega)
      have hspot : spot = none := by simpa [Addr.add] using World.cell?_spot hs
      subst hspot
      refine ⟨b, off, rfl, fun j hj => ?_⟩
      rw [(hget j hj).1, ← Go.WideShapes.add_plain, hcell j (by omega)]
      have := (hwf _ (hwz _ (hget j hj).2)).1
      rw [Int.toNat_of_nonneg this]
    · by_cases hj : j < len
      · rw [(hget j hj).1]
        exact (hwf _ (hwz _ (hget j hj).2)).2
      · rw [List.getElem?_eq_none (by rw [hlt]; omega)]
        exact hN
    · rw [hlt]
      have h1 := hw _ (by rw [hd]; exact ints_count ht)
      simp only [lits, List.length_map, List.length_take, List.length_drop] at h1
      have h2 : min len zs.length + (zs.length - len) ≤ (min len zs.length + (zs.length - len)) * Tryd.prog.bytesOf e := Nat.le_mul_of_pos_right _ hby
      omega
end Go.Proofs.YtacbfbhhhofifaaDoor.Hd
