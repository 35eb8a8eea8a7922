/- Texts of one layer, one behind the other: LH LI. -/
import Derived.Test.YtdncaehajhmcoaaGreatZL3
import Derived.Test.YtdncaehajhmcoaaGreatZD4
/- Whether a row begins with xn--: as a text, and as code points. -/
namespace Go.Proofs.YtdncaehajhmcoaaGreat.L
open Go.RowKit
set_option linter.unusedVariables false

theorem enc_cases (r : Int) : (0 ≤ r ∧ r < 128 ∧ U.bn (Utf8.encode r) = [r]) ∨ (∃ h t, U.bn (Utf8.encode r) = h :: t ∧ 192 ≤ h) := by
  unfold Utf8.encode
  simp only
  generalize hc : (if Utf8.valid r = true then r.toNat else Utf8.runeError) = c
  have hle : c ≤ 1114111 := by
    rw [← hc]
    split
    · rename_i h
      simp [Utf8.valid] at h; omega
    · decide
  by_cases h1 : c < 128
  · left
    have hv : Utf8.valid r = true := by
      by_cases hv : Utf8.valid r = true
      · exact hv
      · rw [if_neg hv] at hc
        have : Utf8.runeError = 65533 := rfl
        omega
    rw [if_pos hv] at hc
    have h0 : 0 ≤ r := by simp [Utf8.valid] at hv; omega
    refine ⟨h0, by omega, ?_⟩
    rw [if_pos h1]
    show [((UInt8.ofNat c).toNat : Int)] = [r]
    rw [UInt8.toNat_ofNat', Nat.mod_eq_of_lt (by omega)]
    congr 1; omega
  · right
    rw [if_neg h1]
    split
    · exact ⟨((UInt8.ofNat (192 + c / 64)).toNat : Int), _, rfl, by rw [UInt8.toNat_ofNat', Nat.mod_eq_of_lt (by omega)]; omega⟩
    · split
      · exact ⟨((UInt8.ofNat (224 + c / 4096)).toNat : Int), _, rfl, by rw [UInt8.toNat_ofNat', Nat.mod_eq_of_lt (by omega)]; omega⟩
      · exact ⟨((UInt8.ofNat (240 + c / 262144)).toNat : Int), _, rfl, by rw [UInt8.toNat_ofNat', Nat.mod_eq_of_lt (by omega)]; omega⟩
theorem fold_bn : ∀ (ns : List Int) (s : ByteArray), U.bn (ns.foldl (fun r n => r ++ Utf8.encode n) s) = U.bn s ++ ns.flatMap fun r => U.bn (Utf8.encode r)
  | [], s => by simp
  | a :: l, s => by rw [List.foldl_cons, fold_bn l, U.bn_append, List.flatMap_cons, List.append_assoc]
theorem runes_bn (ns : List Int) : U.bn (runesBytes ns) = ns.flatMap fun r => U.bn (Utf8.encode r) := by
  unfold runesBytes
  rw [fold_bn]; rfl
theorem flat_ascii : ∀ (ns T : List Int), (∀ c ∈ T, c < 128) → (ns.flatMap fun r => U.bn (Utf8.encode r)) = T → ns = T
  | [], T, _, h => by simpa using h
  | a :: l, T, hT, h => by
    rw [List.flatMap_cons] at h
    rcases enc_cases a with ⟨h0, h1, h2⟩ | ⟨x, t, h2, h3⟩
    · rw [h2] at h
      cases T with
      | nil => simp at h
      | cons y T =>
        simp only [List.cons_append, List.nil_append, List.cons.injEq] at h
        rw [h.1, flat_ascii l T (fun c hc => hT c (by simp [hc])) h.2]
    · rw [h2] at h
      cases T with
      | nil => simp at h
      | cons y T =>
        simp only [List.cons_append, List.cons.injEq] at h
        have := hT y (by simp)
        omega
theorem ascii_flat : ∀ (ns : List Int), (∀ c ∈ ns, 0 ≤ c ∧ c < 128) → (ns.flatMap fun r => U.bn (Utf8.encode r)) = ns
  | [], _ => rfl
  | a :: l, h => by
    rw [List.flatMap_cons, ascii_flat l (fun c hc => h c (by simp [hc]))]
    rcases enc_cases a with ⟨h0, h1, h2⟩ | ⟨x, t, h2, h3⟩
    · rw [h2]; rfl
    · have h1 := h a (by simp)
      exfalso
      have hv : Utf8.valid a = true := by simp [Utf8.valid]; omega
      unfold Utf8.encode at h2
      simp only [hv, if_true, if_pos (show a.toNat < 128 by omega)] at h2
      have e : U.bn ⟨#[UInt8.ofNat a.toNat]⟩ = [((UInt8.ofNat a.toNat).toNat : Int)] := rfl
      rw [e, UInt8.toNat_ofNat', Nat.mod_eq_of_lt (by omega)] at h2
      simp only [List.cons.injEq] at h2
      omega
def xn : ByteArray := ⟨#[120, 110, 45, 45]⟩
theorem bn_xn : U.bn xn = [120, 110, 45, 45] := rfl
theorem xn_iff (ns : List Int) : (runesBytes ns = xn) ↔ ns = [120, 110, 45, 45] := by
  constructor
  · intro h
    have h2 := congrArg U.bn h
    rw [runes_bn, bn_xn] at h2
    exact flat_ascii ns _ (by decide) h2
  · rintro rfl
    apply U.bn_inj
    rw [runes_bn, bn_xn]
    exact ascii_flat _ (by decide)
end Go.Proofs.YtdncaehajhmcoaaGreat.L
/- The fourth question; the row of questions. -/
namespace Go.Proofs.YtdncaehajhmcoaaGreat.L
open Go.RowKit
set_option linter.unusedVariables false

theorem sizeOfE (W : World) : (sizeOf (Tryz.prog.elem 34)).run Tryz.prog W = .ok 1 W := by kernel_rfl
theorem pre4_no (L : List Int) (h : ¬ 4 ≤ L.length) : pre4 L = false := by
  unfold pre4
  apply decide_eq_false
  intro e
  have := congrArg List.length e
  rw [List.length_take] at this
  simp at this; omega
theorem xn_list (t : ByteArray) : (t.toList == [120, 110, 45, 45]) = decide (t = xn) := by
  rw [Bool.eq_iff_iff, beq_iff_eq, decide_eq_true_eq, Go.ByteArray.toList_eq]
  constructor
  · intro h
    exact Go.WideShapes.bytes_inj h
  · rintro rfl; rfl
set_option maxRecDepth 100000 in
set_option maxHeartbeats 2000000 in
theorem q4_any (B : Nat) (v : Value) (L : List Int) (w : World) (hlen : L.length ≤ 10000) (hb : Boxed w B 34 v) (hv : U.IntsAt w v L) (hcap : ∀ a n c, v = .slice a n c → n ≤ c) :
    Calls Tryz.prog 131 #[.pointer (some ⟨B, 0, none⟩)] w fun e W' => e = .returned (.bool (pre4 L)) ∧ Below w.heap.size w W' := by
  obtain ⟨a, c, rfl, hf⟩ := ints_form hv
  have hc := hb.cell
  have hcp := hcap _ _ _ rfl
  by_cases h4 : 4 ≤ L.length
  · obtain ⟨b, off, rfl, hcc⟩ := hf (by omega)
    have hsl : ∀ W, (Instr.slice 34 (.slice (some ⟨b, off, none⟩) L.length c) none (some (.int .i64 4)) none).run Tryz.prog W = .ok (.slice (some ⟨b, off, none⟩) 4 c) W := fun W => by
      rw [run_slice_h W 34 (some ⟨b, off, none⟩) L.length c (by kernel_rfl) .i64 4 (by omega) (by omega), sizeOfE W]
      simp only [Result.andThen, sliced]
      split <;> simp [Addr.add]
    have hcv : (convert 34 9 (.slice (some ⟨b, off, none⟩) 4 c)).run Tryz.prog w = .ok (.string (runesBytes (L.take 4))) w :=
      run_convert_runes w 34 9 21 ⟨b, off, none⟩ 4 c L h4 Tryz.underlying34 Tryz.underlying21 Tryz.underlying9 (fun j hj => by
        rw [Addr.add_lit, hcc j hj, List.getD_eq_getElem?_getD])
    have HP : Hid (pre4 L = decide (runesBytes (L.take 4) = xn)) := by
      show _ = _
      unfold pre4
      exact decide_eq_decide.2 (xn_iff _).symm
    obtain ⟨t, ht⟩ : ∃ t, runesBytes (L.take 4) = t := ⟨_, rfl⟩
    rw [ht] at hcv HP
    obtain ⟨R, hR⟩ : ∃ R, pre4 L = R := ⟨_, rfl⟩
    rw [hR] at HP ⊢
    obtain ⟨n, hn⟩ : ∃ n, L.length = n := ⟨_, rfl⟩
    rw [hn] at hc h4 hlen hsl hcp
    have h4z : (4 : Int) ≤ (n : Int) := by omega
    clear ht hR hn hb hv hf hcc hcap
    go_enter Tryz.func131, Tryz.ntmps131
    go_wp2
    go_ret
    refine ⟨?_, Below.refl _ _⟩
    rw [HP.out, ← xn_list t]; rfl
  · have hcn : ∃ z, L.length = z := ⟨_, rfl⟩
    rw [pre4_no L h4]
    obtain ⟨n, hn⟩ := hcn
    rw [hn] at hc h4 hlen
    have h4z : ¬ (4 : Int) ≤ (n : Int) := by omega
    clear hn hb hv hf hcap hcp
    go_enter Tryz.func131, Tryz.ntmps131
    go_wp2
    go_ret
    exact ⟨rfl, Below.refl _ _⟩
def qF (k : Nat) (B : Array Value) : Value := .func (.func k) #[] B
def pt (b : Nat) : Value := .pointer (some ⟨b, 0, none⟩)
/-- The eight questions, as they lie in memory. -/
def qCells (Bl Bh Bf Bz : Nat) : Array Value :=
  #[.int .u16 1, .func (.func 127) #[] #[pt Bl], .int .u16 2, .func (.func 129) #[] #[pt Bh, pt Bl], .int .u16 4, .func (.func 130) #[] #[pt Bh, pt Bf, pt Bz],
    .int .u16 8, .func (.func 131) #[] #[pt Bl], .int .u16 16, .func (.func 132) #[] #[pt Bl], .int .u16 32, .func (.func 134) #[] #[pt Bf],
    .int .u16 64, .func (.func 136) #[] #[pt Bl], .int .u16 128, .func (.func 138) #[] #[pt Bl]]
structure Qs (W : World) (g Bl Bh Bf Bz : Nat) (v : Value) (hy : Bool) (x y : Int) : Prop where
  row : W.heap[g]? = some (.cells (qCells Bl Bh Bf Bz) 112 (0, 0))
  l : Boxed W Bl 34 v
  h : Boxed W Bh 4 (.bool hy)
  f : Boxed W Bf 21 (.int .i32 x)
  z : Boxed W Bz 21 (.int .i32 y)
theorem sizeOfQ (W : World) : (sizeOf 112).run Tryz.prog W = .ok 2 W := by kernel_rfl
theorem zeroOfQ (W : World) : (zeroValue 112).run Tryz.prog W = .ok (.agg #[.int .u16 0, .nilFunc]) W := by kernel_rfl
/-- What is boxed ahead of the row of questions. -/
structure PreQ (w W : World) (Bl Bh Bf Bz : Nat) (v : Value) (hy : Bool) (x y : Int) : Prop where
  l : Boxed W Bl 34 v
  h : Boxed W Bh 4 (.bool hy)
  f : Boxed W Bf 21 (.int .i32 x)
  z : Boxed W Bz 21 (.int .i32 y)
  be : Below w.heap.size w W
theorem boxed_drew {W : World} {B : Nat} {t : TypeId} {v : Value} (h : Boxed W B t v) : Boxed W.drew B t v := h
theorem below_drew {w W : World} {n : Nat} (h : Below n w W) : Below n w W.drew := ⟨h.os, h.tape, h.output, h.size, h.block⟩
theorem PreQ.new1 {w W : World} {Bl Bh : Nat} {v : Value} {hy : Bool} {x y : Int} (hl : Boxed W Bl 34 v) (hh : Boxed W Bh 4 (.bool hy)) (hB : Below w.heap.size w W) :
    PreQ w ((W.alloc (.cells #[.int .i32 x] 21)).alloc (.cells #[.int .i32 y] 21)).drew Bl Bh W.heap.size (W.heap.size + 1) v hy x y := by
  have b1 := Boxed.new W 21 (.int .i32 x)
  have b2 := Boxed.new (W.alloc (.cells #[.int .i32 x] 21)) 21 (.int .i32 y)
  rw [World.size_alloc] at b2
  exact ⟨boxed_drew ((hl.alloc _).alloc _), boxed_drew ((hh.alloc _).alloc _), boxed_drew (b1.alloc _), boxed_drew b2, below_drew ((hB.alloc hB.size _).alloc (Nat.le_trans hB.size (by simp)) _)⟩
theorem PreQ.new2 {w W : World} {Bl Bh : Nat} {v : Value} {hy : Bool} {x y : Int} (hl : Boxed W Bl 34 v) (hh : Boxed W Bh 4 (.bool hy)) (hB : Below w.heap.size w W) :
    PreQ w ((W.alloc (.cells #[.int .i32 y] 21)).alloc (.cells #[.int .i32 x] 21)).drew Bl Bh (W.heap.size + 1) W.heap.size v hy x y :=
  let h := PreQ.new1 (x := y) (y := x) hl hh hB
  ⟨h.l, h.h, h.z, h.f, h.be⟩
theorem PreQ.qs {w W : World} {Bl Bh Bf Bz : Nat} {v : Value} {hy : Bool} {x y : Int} (h : PreQ w W Bl Bh Bf Bz v hy x y) :
    Qs (W.alloc (.cells (qCells Bl Bh Bf Bz) 112)) W.heap.size Bl Bh Bf Bz v hy x y :=
  ⟨World.alloc_heap_new W _, h.l.alloc _, h.h.alloc _, h.f.alloc _, h.z.alloc _⟩
set_option maxRecDepth 100000 in
set_option maxHeartbeats 4000000 in
theorem questions_any (v : Value) (hy : Bool) (L : List Int) (w : World) (hp : 0 < L.length) (hlen : L.length ≤ 10000) (hv : U.IntsAt w v L) :
    Calls Tryz.prog 88 #[v, .bool hy] w fun e W' => (∃ g Bl Bh Bf Bz, e = .returned (.slice (some ⟨g, 0, none⟩) 8 8) ∧ Qs W' g Bl Bh Bf Bz v hy (L[0]?.getD 0) (L[L.length - 1]?.getD 0)) ∧ Below w.heap.size w W' := by
  obtain ⟨a, c, rfl, hf⟩ := ints_form hv
  obtain ⟨b, off, rfl, hcc⟩ := hf hp
  have h0 := hcc 0 hp
  have h1 := hcc (L.length - 1) (by omega)
  obtain ⟨x, hx⟩ : ∃ x, L[0]?.getD 0 = x := ⟨_, rfl⟩
  obtain ⟨y, hyy⟩ : ∃ y, L[L.length - 1]?.getD 0 = y := ⟨_, rfl⟩
  rw [hx] at h0
  rw [hyy] at h1
  rw [hx, hyy]
  obtain ⟨m, hm⟩ : ∃ m, L.length - 1 = m := ⟨_, rfl⟩
  obtain ⟨n, hn⟩ : ∃ n, L.length = n := ⟨_, rfl⟩
  have em : (n : Int) - 1 = (m : Int) := by omega
  rw [hm] at h1
  rw [hn] at hp hlen ⊢
  have hlb : b < w.heap.size := U.lt_of_cell h0
  have hm1 : m < n := by omega
  rw [Nat.add_zero] at h0
  clear hx hyy hm hn hv hf hcc
  go_enter Tryz.func88, Tryz.ntmps88
  go_wp2_with fail
  have hsz : ((w.alloc (.cells #[.slice (some ⟨b, off, none⟩) n c] 34)).alloc (.cells #[.bool hy] 4)).heap.size = w.heap.size + 2 := by simp only [World.size_alloc]
  have bl : Boxed ((w.alloc (.cells #[.slice (some ⟨b, off, none⟩) n c] 34)).alloc (.cells #[.bool hy] 4)) w.heap.size 34 (.slice (some ⟨b, off, none⟩) n c) := (Boxed.new w _ _).alloc _
  have bh : Boxed ((w.alloc (.cells #[.slice (some ⟨b, off, none⟩) n c] 34)).alloc (.cells #[.bool hy] 4)) (w.heap.size + 1) 4 (.bool hy) := by
    have := Boxed.new (w.alloc (.cells #[.slice (some ⟨b, off, none⟩) n c] 34)) 4 (.bool hy)
    rwa [World.size_alloc] at this
  have hB2 : Below w.heap.size w ((w.alloc (.cells #[.slice (some ⟨b, off, none⟩) n c] 34)).alloc (.cells #[.bool hy] 4)) := ((Below.refl _ w).alloc (Nat.le_refl _) _).alloc (by simp) _
  obtain ⟨w2, hw2⟩ : ∃ w2, ((w.alloc (.cells #[.slice (some ⟨b, off, none⟩) n c] 34)).alloc (.cells #[.bool hy] 4)) = w2 := ⟨_, rfl⟩
  rw [hw2] at hsz bl bh hB2 ⊢
  have d0 : w2.cell? ⟨b, off, none⟩ = some (.int .i32 x) := (hB2.cell (p := ⟨b, off, none⟩) hlb).trans h0
  have d1 : w2.cell? ⟨b, off + m, none⟩ = some (.int .i32 y) := (hB2.cell (p := ⟨b, off + m, none⟩) hlb).trans h1
  have dl := bl.cell
  clear h0 h1 hw2
  have HSZ := hid hsz
  clear hsz
  have hnz : (0 : Int) < (n : Int) := by omega
  have hwm : IntKind.i64.wrap (m : Int) = (m : Int) := by rw [IntKind.wrap_i64]; omega
  have hll : w.heap.size < w2.heap.size := by have := HSZ.out; omega
  have hlb2 : b < w2.heap.size := by have := HSZ.out; omega
  have ca : ∀ (o : Obj) (p : Addr) (z : Value), p.block < w2.heap.size → w2.cell? p = some z → (w2.alloc o).cell? p = some z := fun o p z h1 h2 => (((Below.refl w2.heap.size w2).alloc (Nat.le_refl _) o).cell (p := p) h1).trans h2
  have cb : ∀ (o o' : Obj) (p : Addr) (z : Value), p.block < w2.heap.size → w2.cell? p = some z → ((w2.alloc o).alloc o').cell? p = some z := fun o o' p z h1 h2 => ((((Below.refl w2.heap.size w2).alloc (Nat.le_refl _) o).alloc (by simp) o').cell (p := p) h1).trans h2
  have la : ∀ o, (w2.alloc o).cell? ⟨w.heap.size, 0, none⟩ = some (.slice (some ⟨b, off, none⟩) n c) := fun o => ca o _ _ hll dl
  have lb : ∀ o o', ((w2.alloc o).alloc o').cell? ⟨w.heap.size, 0, none⟩ = some (.slice (some ⟨b, off, none⟩) n c) := fun o o' => cb o o' _ _ hll dl
  have xa : ∀ o, (w2.alloc o).cell? ⟨b, off, none⟩ = some (.int .i32 x) := fun o => ca o _ _ hlb2 d0
  have xb : ∀ o o', ((w2.alloc o).alloc o').cell? ⟨b, off, none⟩ = some (.int .i32 x) := fun o o' => cb o o' _ _ hlb2 d0
  have ya : ∀ o, (w2.alloc o).cell? ⟨b, off + m, none⟩ = some (.int .i32 y) := fun o => ca o _ _ hlb2 d1
  have yb : ∀ o o', ((w2.alloc o).alloc o').cell? ⟨b, off + m, none⟩ = some (.int .i32 y) := fun o o' => cb o o' _ _ hlb2 d1
  have BL := hid bl
  have BH := hid bh
  have HB2 := hid hB2
  clear ca cb bl bh hB2 hll hlb2
  go_region
  · obtain ⟨w3, hw3⟩ : ∃ w3, ((w2.alloc (.cells #[.int .i32 x] 21)).alloc (.cells #[.int .i32 y] 21)).drew = w3 := ⟨_, rfl⟩
    have hq : PreQ w w3 w.heap.size (w.heap.size + 1) (w2.heap.size) (w2.heap.size + 1) (.slice (some ⟨b, off, none⟩) n c) hy x y := by
      rw [← hw3]
      exact PreQ.new1 BL.out BH.out HB2.out
    have HQ := hid hq
    rw [hw3]
    generalize w2.heap.size = Bf at HQ ⊢
    generalize w2.heap.size + 1 = Bz at HQ ⊢
    clear hw3 hq la lb xa xb ya yb d0 d1 dl
    go_wp2_with ((refine D.wpList_buildSlice rfl 109 8 _ rfl 112 Tryz.underlying109 2 sizeOfQ _ zeroOfQ (by omega) (by omega) (qCells w.heap.size (w.heap.size + 1) Bf Bz) (by rfl) ?_))
    go_ret
    exact ⟨⟨w3.heap.size, _, _, _, _, rfl, HQ.out.qs⟩, HQ.out.be.alloc HQ.out.be.size _⟩
  · obtain ⟨w3, hw3⟩ : ∃ w3, ((w2.alloc (.cells #[.int .i32 y] 21)).alloc (.cells #[.int .i32 x] 21)).drew = w3 := ⟨_, rfl⟩
    have hq : PreQ w w3 w.heap.size (w.heap.size + 1) (w2.heap.size + 1) (w2.heap.size) (.slice (some ⟨b, off, none⟩) n c) hy x y := by
      rw [← hw3]
      exact PreQ.new2 BL.out BH.out HB2.out
    have HQ := hid hq
    rw [hw3]
    generalize w2.heap.size + 1 = Bf at HQ ⊢
    generalize w2.heap.size = Bz at HQ ⊢
    clear hw3 hq la lb xa xb ya yb d0 d1 dl
    go_wp2_with ((refine D.wpList_buildSlice rfl 109 8 _ rfl 112 Tryz.underlying109 2 sizeOfQ _ zeroOfQ (by omega) (by omega) (qCells w.heap.size (w.heap.size + 1) Bf Bz) (by rfl) ?_))
    go_ret
    exact ⟨⟨w3.heap.size, _, _, _, _, rfl, HQ.out.qs⟩, HQ.out.be.alloc HQ.out.be.size _⟩
end Go.Proofs.YtdncaehajhmcoaaGreat.L
