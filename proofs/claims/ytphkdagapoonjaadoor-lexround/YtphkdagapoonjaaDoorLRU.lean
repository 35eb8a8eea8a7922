/- A slice of tokens that came in. (Stage 15.) -/
import Derived.Test.YtphkdagapoonjaaDoorLRT
import Derived.Deep.SlicePairs
import Derived.OpenShut
namespace Go.Proofs.YtphkdagapoonjaaDoor.Lx
open Go.RowKit Go.ChangeShapes Go.WideShapes
open Go.Proofs.YtphkdagapoonjaaDoor.F (bn bn_length bn_append bn_inj bn_get byte_bd hid bn_extract isEmpty_false isEmpty_true str_eq same_eq)
set_option linter.unusedVariables false

/-- What any token keeps to. -/
def Twf (t : Tb) : Prop := t.k ≤ 255 ∧ t.x.size ≤ maxLen ∧ (Lit.int .i64 t.n).wf = true ∧ (Lit.int .i64 t.a).wf = true
theorem und_tok : ∃ f0 f1 f2 f3 : Field, Tryd.prog.underlying 35 = some (.struct #[f0, f1, f2, f3]) ∧ f0.type = 5 ∧ f1.type = 9 ∧ f2.type = 3 ∧ f3.type = 3 ∧ f0.offset = 0 ∧ f1.offset = 1 ∧ f2.offset = 2 ∧ f3.offset = 3 :=
  ⟨_, _, _, _, Tryd.underlying35, rfl, rfl, rfl, rfl, rfl, rfl, rfl, rfl⟩
theorem mem_all {H : Type} {P : Program} {e : TypeId} {k : Nat} {d : DataW H} : ∀ {r : List (DataW H)}, d ∈ r → k ∈ d.weights P e → k ∈ DataW.weightsAll P e r
  | [], h, _ => by cases h
  | x :: r, h, hk => by
    rw [DataW.weightsAll]
    rcases List.mem_cons.1 h with rfl | h
    · exact List.mem_append_left _ hk
    · exact List.mem_append_right _ (mem_all h hk)
/-- The length of a token's text is one of its weights. -/
theorem tok_weight {H : Type} {d0 d2 d3 : DataW H} {s : List UInt8} : s.length ∈ (DataW.agg [d0, .lit (.string s), d2, d3]).weights Tryd.prog 35 := by
  rw [DataW.weights]
  simp only [Tryd.underlying35]
  simp [DataW.weightsEach, DataW.weights]
theorem slice_weight {H : Type} {d : DataW H} {l r : List (DataW H)} {k : Nat} (hd : d ∈ l) (hk : k ∈ d.weights Tryd.prog 35) : k ∈ (DataW.slice l r).weights Tryd.prog 22 := by
  rw [DataW.weights]
  simp only [Tryd.underlying22]
  exact List.mem_cons_of_mem _ (List.mem_append_left _ (mem_all hd hk))
set_option maxRecDepth 100000 in
theorem open_toks {H : Type} {enc : TypeId × Value → H} {w : World} {base : Nat} {spare : Nat → Bool} {held : Bool} {fuel : Nat} {cs : List Value} {x : DataW H × List MemPlace}
    (h : DataW.trod enc Tryd.prog w base spare held fuel 22 cs = some x) : ∃ (a : Option Addr) (len cap : Nat) (l : List Tb), cs = [.slice a len cap] ∧ len ≤ maxLen ∧ TokAt w (.slice a len cap) l ∧ ∀ t ∈ l, Twf t ∧ t.x.size ∈ x.1.weights Tryd.prog 22 := by
  rcases Go.Deep.open_slice Tryd.underlying22 h with ⟨rfl, _⟩ | ⟨a, len, cap, m, n, D, Pl, rfl, hb, hl, hm, hmm, rfl, hx⟩
  · exact ⟨none, 0, 0, [], rfl, Nat.zero_le _, ⟨none, 0, rfl, fun _ => rfl, fun h => (by simp at h)⟩, fun t ht => (by cases ht)⟩
  · have hlm : len ≤ m := by rw [hmm]; split <;> omega
    obtain ⟨f0, f1, f2, f3, hu, e0, e1, e2, e3, o0, o1, o2, o3⟩ := und_tok
    have ce : Tryd.prog.cellsOf 35 = 4 := by kernel_rfl
    have c8 : Tryd.prog.cellsOf 5 = 1 := by kernel_rfl
    have cS : Tryd.prog.cellsOf 9 = 1 := by kernel_rfl
    have cI : Tryd.prog.cellsOf 3 = 1 := by kernel_rfl
    have each : ∀ i, i < len → ∃ t : Tb, (Twf t ∧ t.x.size ∈ (D i).weights Tryd.prog 35) ∧ ∀ c, c < 4 → w.cell? (a.add (i * 4 + c)) = (cells4 t)[c]? := by
      intro i hi
      obtain ⟨cs', h1, h2⟩ := hx i (by omega)
      rw [ce] at h1
      obtain ⟨_, hlen, hcell⟩ := World.cells?_some h1
      obtain ⟨xs, k, hk, hxy, _, hxl, hf⟩ := DataW.trod_struct hu h2
      match xs, hxl, cs', hlen with
      | [y0, y1, y2, y3], _, [v0, v1, v2, v3], _ =>
        have g0 := hf 0 f0 rfl
        have g1 := hf 1 f1 rfl
        have g2 := hf 2 f2 rfl
        have g3 := hf 3 f3 rfl
        simp [o0, o1, o2, o3, e0, e1, e2, e3, c8, cS, cI] at g0 g1 g2 g3
        have d0 := hcell 0 (by omega)
        have d1 := hcell 1 (by omega)
        have d2 := hcell 2 (by omega)
        have d3 := hcell 3 (by omega)
        rw [Go.Deep.add_add] at d0 d1 d2 d3
        obtain ⟨k0, r0, _, w0⟩ := DataW.trod_int Tryd.underlying5 g0
        obtain ⟨x1, r1, q1, w1⟩ := DataW.trod_string Tryd.underlying9 g1
        obtain ⟨n2, r2, _, w2⟩ := DataW.trod_int Tryd.underlying3 g2
        obtain ⟨n3, r3, _, w3⟩ := DataW.trod_int Tryd.underlying3 g3
        obtain rfl := (List.cons.inj r0).1
        obtain rfl := (List.cons.inj r1).1
        obtain rfl := (List.cons.inj r2).1
        obtain rfl := (List.cons.inj r3).1
        have hk : 0 ≤ k0 ∧ k0 ≤ 255 := by
          simp [Lit.wf, IntKind.min, IntKind.max, IntKind.bits, IntKind.signed] at w0
          omega
        refine ⟨⟨k0.toNat, x1, n2, n3⟩, ⟨⟨by simp only; omega, w1, w2, w3⟩, ?_⟩, fun c hc => ?_⟩
        · have hd : D i = .agg [y0.1, y1.1, y2.1, y3.1] := congrArg Prod.fst hxy
          rw [hd, congrArg Prod.fst q1]
          exact tok_weight (s := x1.data.toList)
        have hk2 : ((k0.toNat : Nat) : Int) = k0 := Int.toNat_of_nonneg hk.1
        unfold cells4
        simp only [hk2]
        obtain rfl | rfl | rfl | rfl : c = 0 ∨ c = 1 ∨ c = 2 ∨ c = 3 := by omega
        · exact d0
        · exact d1
        · exact d2
        · exact d3
    haveI : Inhabited Tb := ⟨z4⟩
    obtain ⟨q, hq⟩ := Go.Deep.choose_lt each
    have hql : ((List.range len).map q).length = len := by simp
    have hqg : ∀ j, j < len → ((List.range len).map q)[j]?.getD z4 = q j := fun j hj => by
      rw [List.getElem?_map, List.getElem?_range hj]; rfl
    refine ⟨some a, len, cap, (List.range len).map q, rfl, by omega, ⟨some a, cap, by rw [hql], fun h => (by cases h), fun h0 => ?_⟩, fun t ht => ?_⟩
    · rw [hql] at h0 ⊢
      obtain ⟨b, off, spot⟩ := a
      have hs := (hq 0 h0).2 0 (by decide)
      have hspot : spot = none := by
        have e : (cells4 (q 0))[0]? = some (.int .u8 ((q 0).k : Nat)) := rfl
        rw [e] at hs
        simpa [Addr.add] using World.cell?_spot hs
      subst hspot
      refine ⟨b, off, rfl, fun j c hj hc => ?_⟩
      rw [hqg j hj, ← (hq j hj).2 c hc, Go.WideShapes.add_plain]
    · obtain ⟨j, hj, rfl⟩ := List.mem_map.1 ht
      exact ⟨(hq j (List.mem_range.1 hj)).1.1, slice_weight (List.mem_map.2 ⟨j, hj, rfl⟩) (hq j (List.mem_range.1 hj)).1.2⟩
end Go.Proofs.YtphkdagapoonjaaDoor.Lx
