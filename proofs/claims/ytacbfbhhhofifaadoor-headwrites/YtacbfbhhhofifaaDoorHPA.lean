/- head.Token: its table; isOf. (Stage 19.) -/
import Derived.Test.YtacbfbhhhofifaaDoorHRI
import Derived.Lib.AsciiSet
import Derived.Lib.SlBytesConst
namespace Go.Proofs.YtacbfbhhhofifaaDoor.Hd
open Go.RowKit
open Go.Proofs.YtacbfbhhhofifaaDoor.F (bn bn_length bn_append bn_inj bn_get byte_bd hid bn_extract isEmpty_false isEmpty_true str_eq same_eq)
set_option linter.unusedVariables false

/-- The signs of a token. -/
def sg8 : List UInt8 := [33, 35, 36, 37, 38, 39, 42, 43, 45, 46, 94, 95, 96, 124, 126]
def l1 (i : Nat) : List UInt8 := (List.range i).flatMap fun k => [UInt8.ofNat (97 + k), UInt8.ofNat (65 + k)]
def l2 (i : Nat) : List UInt8 := l1 26 ++ (List.range i).map fun k => UInt8.ofNat (48 + k)
def l3 (i : Nat) : List UInt8 := l2 10 ++ sg8.take i
theorem l1_step (i : Nat) : l1 (i + 1) = (l1 i ++ [UInt8.ofNat (97 + i)]) ++ [UInt8.ofNat (65 + i)] := by
  unfold l1
  rw [List.range_succ, List.flatMap_append]
  simp
theorem l2_step (i : Nat) : l2 (i + 1) = l2 i ++ [UInt8.ofNat (48 + i)] := by
  unfold l2
  rw [List.range_succ, List.map_append]
  simp
theorem l3_step (i : Nat) (h : i < 15) : l3 (i + 1) = l3 i ++ [sg8[i]?.getD 0] := by
  unfold l3
  rw [List.take_add_one, List.getElem?_eq_getElem (show i < sg8.length from h)]
  simp
/-- What a token may have. -/
def tbl : Array Value := Lib.setCells (l3 15)
theorem tbl_fin : ∀ n : Fin 256, (l3 15).contains (UInt8.ofNat n.val) = tc (n.val : Int) := by decide +kernel
theorem tbl_at (c : Int) (h0 : 0 ≤ c) (h1 : c ≤ 255) : tbl[c.toNat]? = some (.bool (tc c)) := by
  have h := Lib.setCells_at (l3 15) (UInt8.ofNat c.toNat)
  have e : (UInt8.ofNat c.toNat).toNat = c.toNat := by simp; omega
  have f := tbl_fin ⟨c.toNat, by omega⟩
  simp only at f
  rw [e, f] at h
  rw [show ((c.toNat : Nat) : Int) = c by omega] at h
  exact h
theorem set_at (l : List UInt8) (k : Nat) (h : k < 256) : ∃ b, (Lib.setCells l)[k]? = some (.bool b) := by
  have h2 := Lib.setCells_at l (UInt8.ofNat k)
  have e : (UInt8.ofNat k).toNat = k := by simp; omega
  rw [e] at h2
  exact ⟨_, h2⟩
theorem set_snoc (l : List UInt8) (k : Nat) (h : k < 256) : (Lib.setCells l).setIfInBounds k (.bool true) = Lib.setCells (l ++ [UInt8.ofNat k]) := by
  have e : (UInt8.ofNat k).toNat = k := by simp; omega
  rw [Lib.setCells_snoc, e]
def SG8 : Array Value := #[.int .u8 33, .int .u8 35, .int .u8 36, .int .u8 37, .int .u8 38, .int .u8 39, .int .u8 42, .int .u8 43, .int .u8 45, .int .u8 46, .int .u8 94, .int .u8 95, .int .u8 96, .int .u8 124, .int .u8 126]
theorem sg_cell (i : Nat) (h : i < 15) : SG8[i]? = some (.int .u8 ((sg8[i]?.getD 0).toNat : Int)) := by
  have : ∀ k : Fin 15, SG8[k.val]? = some (.int .u8 ((sg8[k.val]?.getD 0).toNat : Int)) := by
    intro k
    unfold SG8
    match k with
    | 0 => rfl | 1 => rfl | 2 => rfl | 3 => rfl | 4 => rfl | 5 => rfl | 6 => rfl | 7 => rfl | 8 => rfl | 9 => rfl | 10 => rfl | 11 => rfl | 12 => rfl | 13 => rfl | 14 => rfl
  exact this ⟨i, h⟩
theorem row_mid (w : World) (a b c : Obj) : (((w.alloc a).alloc b).alloc c).heap[w.heap.size + 1]? = some b := by
  have h := heap_alloc_last (w.alloc a) b
  rw [World.size_alloc] at h
  exact (Below.heap_alloc _ _ _ (by simp)).trans h
theorem row_low (w : World) (a b c : Obj) : (((w.alloc a).alloc b).alloc c).heap[w.heap.size]? = some a :=
  (Below.heap_alloc _ _ _ (by simp; omega)).trans ((Below.heap_alloc _ _ _ (by simp)).trans (heap_alloc_last w a))
theorem row_high (w : World) (a b c : Obj) : (((w.alloc a).alloc b).alloc c).heap[w.heap.size + 1 + 1]? = some c := by
  have h := heap_alloc_last ((w.alloc a).alloc b) c
  rw [World.size_alloc, World.size_alloc] at h
  exact h
theorem tbl_size : tbl.size = 256 := Lib.setCells_size _
set_option maxRecDepth 1000000 in
set_option maxHeartbeats 8000000 in
theorem tokens_any (w : World) : Calls Tryd.prog 23 #[] w fun e W' => e = .returned (.agg tbl) ∧ Below w.heap.size w W' := by
  have hv : ∀ w, (zeroValue 54).run Tryd.prog w = .ok (.agg (Array.replicate 256 (.bool false))) w := fun w => by kernel_rfl
  have HI : Hid ((Tryd.prog.info? 54).map (·.size) = some 256) := hid (by kernel_rfl)
  have hw1 : ∀ i : Nat, i < 26 → (IntKind.u8.wrap (97 + (i : Int)) = 97 + i ∧ IntKind.u8.wrap (65 + (i : Int)) = 65 + i ∧ IntKind.u8.wrap ((i : Int) + 1) = i + 1) := fun i h => by
    refine ⟨?_, ?_, ?_⟩ <;> (rw [IntKind.wrap_u8]; omega)
  have HW1 := hid hw1
  clear hw1
  have HW2 : Hid (∀ i : Nat, i < 10 → (IntKind.u8.wrap (48 + (i : Int)) = 48 + i ∧ IntKind.u8.wrap ((i : Int) + 1) = i + 1)) := fun i h => by
    refine ⟨?_, ?_⟩ <;> (rw [IntKind.wrap_u8]; omega)
  go_enter Tryd.func23, Tryd.ntmps23
  go_wp2
  rw [← Lib.setCells_nil]
  go_loopg [6] 26 (fun g v6 wx => ∃ i : Nat, i + g = 26 ∧ v6 = .int .u8 i ∧ wx = (w.alloc (.cells (Lib.setCells []) 54)).alloc (.cells (Lib.setCells (l1 i)) 54))
  case atStart => exact ⟨0, by omega, rfl, rfl⟩
  case round =>
    obtain ⟨i, hig, rfl, rfl⟩ := hrel
    cases gk with
    | zero =>
      obtain rfl : i = 26 := by omega
      go_wp2
      go_loopg [16] 10 (fun g v16 wx => ∃ i : Nat, i + g = 10 ∧ v16 = .int .u8 i ∧ wx = (w.alloc (.cells (Lib.setCells []) 54)).alloc (.cells (Lib.setCells (l2 i)) 54))
      case atStart => exact ⟨0, by omega, rfl, by unfold l2; simp⟩
      case round =>
        obtain ⟨i, hig2, rfl, rfl⟩ := hrel
        cases gk with
        | zero =>
          obtain rfl : i = 10 := by omega
          have kc := Lib.run_convert_bytes_const (P := Tryd.prog) ((w.alloc (.cells (Lib.setCells []) 54)).alloc (.cells (Lib.setCells (l2 10)) 54)) 38 5 #[.int .u8 33, .int .u8 35, .int .u8 36, .int .u8 37, .int .u8 38, .int .u8 39, .int .u8 42, .int .u8 43, .int .u8 45, .int .u8 46, .int .u8 94, .int .u8 95, .int .u8 96, .int .u8 124, .int .u8 126] 15 15 Tryd.underlying38 Tryd.underlying5
          simp only [World.size_alloc] at kc
          rw [show (#[.int .u8 33, .int .u8 35, .int .u8 36, .int .u8 37, .int .u8 38, .int .u8 39, .int .u8 42, .int .u8 43, .int .u8 45, .int .u8 46, .int .u8 94, .int .u8 95, .int .u8 96, .int .u8 124, .int .u8 126] : Array Value) = SG8 from rfl] at kc
          rw [show SG8.size = 15 from rfl] at kc
          have hsg : (#[.int .u8 33, .int .u8 35, .int .u8 36, .int .u8 37, .int .u8 38, .int .u8 39, .int .u8 42, .int .u8 43, .int .u8 45, .int .u8 46, .int .u8 94, .int .u8 95, .int .u8 96, .int .u8 124, .int .u8 126] : Array Value) = SG8 := rfl
          go_wp2_with (rw [hsg])
          clear kc hsg
          go_loopg [26] 15 (fun g v26 wx => ∃ i : Nat, i + g = 15 ∧ v26 = .int .i64 i ∧ wx = ((w.alloc (.cells (Lib.setCells []) 54)).alloc (.cells (Lib.setCells (l3 i)) 54)).alloc (.cells SG8 5 (15, 16)))
          case atStart => exact ⟨0, by omega, rfl, by unfold l3; simp⟩
          case round =>
            obtain ⟨i, hig3, rfl, rfl⟩ := hrel
            cases gk with
            | zero =>
              obtain rfl : i = 15 := by omega
              clear hv
              have h1 : (((w.alloc (.cells (Lib.setCells []) 54)).alloc (.cells (Lib.setCells (l3 15)) 54)).alloc (.cells SG8 5 (15, 16))).heap[w.heap.size + 1]? = some (.cells tbl 54 (0, 0)) := row_mid _ _ _ _
              have h0 : (((w.alloc (.cells (Lib.setCells []) 54)).alloc (.cells (Lib.setCells (l3 15)) 54)).alloc (.cells SG8 5 (15, 16))).heap[w.heap.size]? = some (.cells (Lib.setCells []) 54 (0, 0)) := row_low _ _ _ _
              have hB : Below w.heap.size w (((w.alloc (.cells (Lib.setCells []) 54)).alloc (.cells (Lib.setCells (l3 15)) 54)).alloc (.cells SG8 5 (15, 16))) := (((Below.refl _ w).alloc (Nat.le_refl _) _).alloc (by simp) _).alloc (by simp; omega) _
              obtain ⟨W, hW⟩ : ∃ W, ((w.alloc (.cells (Lib.setCells []) 54)).alloc (.cells (Lib.setCells (l3 15)) 54)).alloc (.cells SG8 5 (15, 16)) = W := ⟨_, rfl⟩
              rw [hW] at h1 h0 hB ⊢
              clear hW
              have H1 := hid h1
              have H0 := hid h0
              have HB := hid hB
              clear h1 h0 hB
              go_wp2_with (first
                | (refine wpList_load_row rfl 54 (.tmp 1) rfl (w.heap.size + 1) rfl 54 tbl (0, 0) _ H1.out Tryd.underlying54 rfl (HI.out.trans (congrArg some tbl_size.symm)) ?_)
                | (refine wpList_store_row rfl 54 (.tmp 0) (.tmp 33) rfl w.heap.size tbl rfl rfl 54 (Lib.setCells []) H0.out (HI.out.trans (congrArg some tbl_size.symm)) ((Lib.setCells_size []).trans tbl_size.symm) (Lib.setCells_one _) ?_))
              refine bodyPost_ret (v := .agg tbl) ?_ rfl ⟨rfl, below_setRow HB.out (Nat.le_refl _) _⟩
              exact results_cell_row rfl _ _ w.heap.size 54 tbl (0, 0) _ rfl (setRow_heap _ _ _ _ _ _ H0.out) Tryd.underlying54 rfl (HI.out.trans (congrArg some tbl_size.symm))
            | succ g =>
              have hi : i < 15 := by omega
              have hiz : (i : Int) < 15 := by omega
              have hc8 := sg_cell i hi
              obtain ⟨x, hx⟩ : ∃ x, sg8[i]?.getD 0 = x := ⟨_, rfl⟩
              rw [hx] at hc8
              have hcx := (cell_of_row _ _ i _ _ _ (row_high w (.cells (Lib.setCells []) 54) (.cells (Lib.setCells (l3 i)) 54) (.cells SG8 5 (15, 16)))).trans hc8
              have hx0 : (0 : Int) ≤ (x.toNat : Int) := by omega
              have hx1 : (x.toNat : Int) < 256 := by have := x.toNat_lt; omega
              obtain ⟨b1, c1⟩ := set_at (l3 i) x.toNat (by omega)
              have HS1 : Hid ((Lib.setCells (l3 i)).setIfInBounds x.toNat (.bool true) = Lib.setCells (l3 (i + 1))) := by
                show _ = _
                rw [l3_step i hi, hx, Lib.setCells_snoc]
              clear hx
              go_wp2
              go_roundg g
              case measure => omega
              case rel => exact ⟨i + 1, by omega, rfl, by rw [← HS1.out]⟩
        | succ g =>
          have hi : i < 10 := by omega
          have hiz : (i : Int) < 10 := by omega
          obtain ⟨w1, w2⟩ := HW2.out i hi
          obtain ⟨b1, c1⟩ := set_at (l2 i) (48 + i) (by omega)
          have HS1 := hid (set_snoc (l2 i) (48 + i) (by omega))
          go_wp2
          go_roundg g
          case measure => omega
          case rel => exact ⟨i + 1, by omega, rfl, by rw [l2_step]; exact congrArg (fun c => ((w.alloc (.cells (Lib.setCells []) 54)).alloc (.cells c 54))) HS1.out⟩
    | succ g =>
      have hi : i < 26 := by omega
      have hiz : (i : Int) < 26 := by omega
      obtain ⟨w1, w2, w3⟩ := HW1.out i hi
      obtain ⟨b1, c1⟩ := set_at (l1 i) (97 + i) (by omega)
      obtain ⟨b2, c2⟩ := set_at (l1 i ++ [UInt8.ofNat (97 + i)]) (65 + i) (by omega)
      rw [← set_snoc (l1 i) (97 + i) (by omega)] at c2
      have HS1 := hid (set_snoc (l1 i) (97 + i) (by omega))
      have HS2 := hid (set_snoc (l1 i ++ [UInt8.ofNat (97 + i)]) (65 + i) (by omega))
      go_wp2
      go_roundg g
      case measure => omega
      case rel => exact ⟨i + 1, by omega, rfl, by rw [l1_step]; exact congrArg (fun c => ((w.alloc (.cells (Lib.setCells []) 54)).alloc (.cells c 54))) ((congrArg (fun c => c.setIfInBounds (65 + i) (.bool true)) HS1.out).trans HS2.out)⟩
end Go.Proofs.YtacbfbhhhofifaaDoor.Hd
