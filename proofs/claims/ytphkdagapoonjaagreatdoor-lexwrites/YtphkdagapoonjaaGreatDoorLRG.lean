/- The document's line. (Stage 15.) (Written by mk_lrg.py.) -/
import Derived.Test.YtphkdagapoonjaaGreatDoorZLXH
import Derived.Test.YtphkdagapoonjaaGreatDoorZFO
import Derived.Test.YtphkdagapoonjaaGreatDoorZLRB
import Derived.Test.YtphkdagapoonjaaGreatDoorLPN
namespace Go.Proofs.YtphkdagapoonjaaGreatDoor.Lx
open Go.RowKit
open Go.Proofs.YtphkdagapoonjaaGreatDoor.F (bn bn_length bn_append bn_inj bn_get byte_bd hid bn_extract isEmpty_false isEmpty_true str_eq same_eq)
open Go.Proofs.YtphkdagapoonjaaGreatDoor.U (nx enc encs scal Bytes)
set_option linter.unusedVariables false

theorem results_tmp_row {fn : Func} {p u : Tmp} {ty : TypeId} (h : fn.results = #[.tmp u, .cell p ty]) (tmps : Array Value) (w : World) (g : Nat) (t : TypeId) (cs : Array Value) (fr : Nat × Nat) (fs : Array Field)
    (hp : tmps.getD p undef = .pointer (some ⟨g, 0, none⟩)) (hg : w.heap[g]? = some (.cells cs t fr))
    (hu : Tryz.prog.underlying ty = some (.struct fs)) (hi : (Tryz.prog.info? ty).map (·.size) = some cs.size) :
    (results fn tmps).run Tryz.prog w = .ok (.tuple #[tmps.getD u undef, .agg cs]) w := by
  have hp' : tmps[p]?.getD undef = .pointer (some ⟨g, 0, none⟩) := by simpa using hp
  simp only [results, h]
  simp [Result.andThen, hp', asAddr, run_loadVar_row w g t ty cs fr (.struct fs) hg hu rfl hi]
theorem LnR.no {r : List Tk × Nat × Nat × Nat} {e l a : Nat} (h : r = ([], e, l, a)) (base : Nat) (W : World) : LnR r base (.returned (.tuple #[.slice none 0 0, .agg (fcs e l a)])) W := ⟨_, [], TokOwn.nil _ _, by rw [h]; rfl, fun t ht => (by cases ht), by rw [h]⟩
theorem box_at (w : World) (cs : Array Value) (t : TypeId) : (w.alloc (.cells cs t)).heap[w.heap.size]? = some (.cells cs t (0, 0)) := heap_alloc_new w _
theorem kept {W W' : World} {g : Nat} {o : Obj} (h : W.heap[g]? = some o) (hb : Below W.heap.size W W') : W'.heap[g]? = some o := (hb.block g (Array.getElem?_eq_some_iff.1 h).1).trans h
theorem TokOwn.stay {w w' : World} {base : Nat} {v : Value} {l : List Tb} (h : TokOwn w base v l) (hk : ∀ g, g < w.heap.size → w'.heap[g]? = w.heap[g]?) : TokOwn w' base v l := by
  refine ⟨h.1, ?_⟩
  rcases h.2 with h | ⟨g, cap, cur, e, h1, h2, h3⟩
  · exact .inl h
  · exact .inr ⟨g, cap, cur, e, h1, (hk g (Array.getElem?_eq_some_iff.1 h2).1).trans h2, h3⟩
theorem tcells {w : World} {g : Nat} {t : Tb} (h : w.heap[g]? = some (.cells (tcs t) 40 (0, 0))) : w.cell? ⟨g, 0, none⟩ = some (.int .u8 (t.k : Nat)) ∧ w.cell? ⟨g, 1, none⟩ = some (.string t.x) ∧ w.cell? ⟨g, 2, none⟩ = some (.int .i64 t.n) ∧ w.cell? ⟨g, 3, none⟩ = some (.int .i64 t.a) :=
  ⟨cell_of_row _ _ _ _ _ _ h, cell_of_row _ _ _ _ _ _ h, cell_of_row _ _ _ _ _ _ h, cell_of_row _ _ _ _ _ _ h⟩
theorem run_storeVar_in (w : World) (g k : Nat) (t ty : TypeId) (cs : Array Value) (v : Value) (hg : w.heap[g]? = some (.cells cs t (0, 0))) (hk : k < cs.size) (hi : (Tryz.prog.info? ty).map (·.size) = some 1)
    (h1 : v.oneCell' = true) : (storeVar ty ⟨g, k, none⟩ v).run Tryz.prog w = .ok () (w.setRow g (cs.setIfInBounds k v)) := by
  have := run_storeCells_cells (P := Tryz.prog) g k [v] 0 w (fun j hj => by
      obtain rfl : j = 0 := by simpa using hj
      rw [show k + 0 + 0 = k from rfl, cell_of_row _ _ _ _ _ _ hg, Array.getElem?_eq_getElem hk]; rfl) (fun j hj => by simp [World.frozen?, hg]) (fun x hx => by simp at hx; subst hx; exact h1)
  have hc : v.cells = #[v] := by cases v <;> first | rfl | cases h1
  cases hq : Tryz.prog.info? ty with
  | none => simp [hq] at hi
  | some i =>
    have hs : i.size = 1 := by simpa [hq] using hi
    simp only [Nat.add_zero, World.setCells, setCell_eq_setRow w g k cs t (0, 0) v hg] at this
    simp [storeVar, sizeOf, typeInfo, hq, hc, hs, this]
theorem wpList_store_in {ops : Array Oper} {rest : List Oper} {o : Oper} {a : Act} {w : World} {Q : Exit → Act → World → Prop} (hgd : o.guard = none) (ty : TypeId) (x y : Operand) (ho : o.op = .store ty x y)
    (g k : Nat) (v : Value) (hx : a.eval x = .pointer (some ⟨g, k, none⟩)) (hy : a.eval y = v) (h1 : v.oneCell' = true) (t : TypeId) (cs : Array Value) (hg : w.heap[g]? = some (.cells cs t (0, 0))) (hk : k < cs.size)
    (hi : (Tryz.prog.info? ty).map (·.size) = some 1)
    (h : ∀ w', w'.heap[g]? = some (.cells (cs.setIfInBounds k v) t (0, 0)) → w'.heap.size = w.heap.size → (∀ j, j ≠ g → w'.heap[j]? = w.heap[j]?) → (∀ B A, B ≤ g → Below B A w → Below B A w') → wpList Tryz.prog ops Q rest (a.put o.dst undef) w') :
    wpList Tryz.prog ops Q (o :: rest) a w :=
  wpList_plain hgd fun _ hK => by
    unfold Oper.wp execOp
    simp only [ho, hx, hy, Instr.storeAt, Instr.sureAddr, Sem.run_bind, Sem.run_pure, Result.andThen_ok, run_storeVar_in w g k t ty cs v hg hk hi h1]
    exact hK _ _ (h _ (setRow_heap _ _ _ _ _ (0, 0) hg) (setRow_size ..) (fun j hj => setRow_other _ _ _ _ hj) (fun B A hB hb => below_row hb hB _))
theorem tok_new2 (w : World) (o : Obj) (t : Tb) : TokAt ((w.alloc o).alloc (.cells (tcs t) 40)) (.slice (some ⟨w.heap.size + 1, 0, none⟩) 1 1) [t] := by
  have h := tok_new (w.alloc o) t
  rw [World.size_alloc] at h
  exact h
theorem TokOwn.other {w w' : World} {base b' : Nat} {v : Value} {l : List Tb} (h : TokOwn w base v l) (hb : b' ≤ base) (hk : ∀ g, base ≤ g → w'.heap[g]? = w.heap[g]?) : TokOwn w' b' v l := by
  refine ⟨h.1, ?_⟩
  rcases h.2 with h | ⟨g, cap, cur, e, h1, h2, h3⟩
  · exact .inl h
  · exact .inr ⟨g, cap, cur, e, Nat.le_trans hb h1, (hk g h1).trans h2, h3⟩
set_option maxRecDepth 100000 in
set_option maxHeartbeats 8000000 in
theorem rline_any (s : ByteArray) (hs : s.size ≤ 1000000) (n : Nat) (hn : n ≤ 1000000000) (w : World) : Calls Tryz.prog 18 #[.string s, .int .i64 (n : Int)] w fun e W' => LnR (line (bn s) n) w.heap.size e W' ∧ Below w.heap.size w W' := by
  have HBD := hid (fun W => rbad_any s hs W)
  have HPB := hid (fun W => rplain_any s hs W)
  obtain ⟨V, hV⟩ : ∃ V, w.alloc (.cells #[.int .i64 0, .int .i64 0, .int .i64 0] 26) = V := ⟨_, rfl⟩
  have R0 : Hid (V.heap[w.heap.size]? = some (.cells (fcs 0 0 0) 26 (0, 0))) := by show _ = _; rw [← hV]; exact box_at w _ _
  have HB : Hid (Below w.heap.size w V) := by show Below _ _ _; rw [← hV]; exact (Below.refl _ w).alloc (Nat.le_refl _) _
  cases h1 : bd (bn s) with
  | some k =>
    have HL : Hid (line (bn s) n = ([], 152, n, k)) := by show _ = _; unfold line; rw [h1]
    rw [h1] at HBD
    have hk : (0 : Int) ≤ (k : Int) := by omega
    have HO : Hid (opt (some k) = (k : Int)) := rfl
    rw [HO.out] at HBD
    clear h1 HPB HO
    go_enter Tryz.func18, Tryz.ntmps18
    go_wp2_with fail
    clear hV
    refine (HBD.out V).mono ?_
    rintro e w2 ⟨rfl, B⟩
    replace R0 := hid (kept R0.out B)
    replace HB := hid (HB.out.trans (B.mono HB.out.size))
    clear B HBD
    go_wp2_with (first | fail | (refine wpList_store_row rfl 26 (.tmp 5) _ rfl w.heap.size (fcs 152 n k) rfl rfl 26 (fcs 0 0 0) R0.out (finfo ..) rfl (fone ..) ?_))
    exact bodyPost_ret (results_tmp_row Tryz.results18 _ _ w.heap.size 26 (fcs 152 n k) (0, 0) _ rfl (setRow_heap _ _ _ _ _ (0, 0) R0.out) Tryz.underlying26 (finfo ..)) rfl ⟨LnR.no HL.out _ _, below_row HB.out (Nat.le_refl _) _⟩
  | none =>
    have e1 : opt none = -1 := rfl
    rw [h1, e1] at HBD
    cases h2 : pb (bn s) with
    | some k =>
      have HL : Hid (line (bn s) n = ([], 150, n, k)) := by show _ = _; unfold line; rw [h1, h2]
      rw [h2] at HPB
      have hk : (0 : Int) ≤ (k : Int) := by omega
      have HO : Hid (opt (some k) = (k : Int)) := rfl
      rw [HO.out] at HPB
      clear h1 h2 HO e1
      go_enter Tryz.func18, Tryz.ntmps18
      go_wp2_with fail
      clear hV
      refine (HBD.out V).mono ?_
      rintro e w2 ⟨rfl, B⟩
      replace R0 := hid (kept R0.out B)
      replace HB := hid (HB.out.trans (B.mono HB.out.size))
      have HP2 := hid (HPB.out w2)
      clear B HBD HPB
      go_wp2_with fail
      refine HP2.out.mono ?_
      rintro e w3 ⟨rfl, B⟩
      replace R0 := hid (kept R0.out B)
      replace HB := hid (HB.out.trans (B.mono HB.out.size))
      clear B HP2
      go_wp2_with (first | fail | (refine wpList_store_row rfl 26 (.tmp 5) _ rfl w.heap.size (fcs 150 n k) rfl rfl 26 (fcs 0 0 0) R0.out (finfo ..) rfl (fone ..) ?_))
      exact bodyPost_ret (results_tmp_row Tryz.results18 _ _ w.heap.size 26 (fcs 150 n k) (0, 0) _ rfl (setRow_heap _ _ _ _ _ (0, 0) R0.out) Tryz.underlying26 (finfo ..)) rfl ⟨LnR.no HL.out _ _, below_row HB.out (Nat.le_refl _) _⟩
    | none =>
      rw [h2, e1] at HPB
      have HL : Hid (line (bn s) n = match lnF (bn s).length [] (bn s) 0 n with
        | (_, some k) => ([], 151, n, k)
        | (o, none) => (if o.length = 0 then [] else o ++ [⟨5, [], n, (bn s).length⟩], 0, 0, 0)) := by show _ = _; unfold line; rw [h1, h2]; rfl
      rw [← lni_zero] at HL
      clear h1 h2 e1
      obtain ⟨R, hR⟩ : ∃ R, lni (bn s) n [] 0 = R := ⟨_, rfl⟩
      rw [hR] at HL
      have H0 : Hid (lni (bn s) n (([] : List Tb).map Tb.tk) 0 = R) := hR
      clear hR
      have HAT := hid (fun i y o hi hy => lni_at (l := bn s) (n := n) (i := i) (y := y) (by rw [bn_length]; exact hi) hy o)
      have HEN := hid (fun i o (hi : s.size ≤ i) => lni_end (l := bn s) (n := n) (i := i) (by rw [bn_length]; exact hi) o)
      have HGT := hid (bn_get s)
      have HBY := hid (fun j (h : j < s.size) => byte_bd (s := s) h)
      go_enter Tryz.func18, Tryz.ntmps18
      go_wp2_with fail
      clear hV
      refine (HBD.out V).mono ?_
      rintro e w2 ⟨rfl, B⟩
      have HV := hid B
      have HP2 := hid (HPB.out w2)
      clear B HBD HPB
      go_wp2_with fail
      refine HP2.out.mono ?_
      rintro e w3 ⟨rfl, B⟩
      replace HV := hid (HV.out.trans (B.mono HV.out.size))
      clear B HP2
      go_wp2_with fail
      go_loopw [7, 8] (fun vl vi wr => ∃ (i : Nat) (o : List Tb), i ≤ s.size ∧ vi = .int .i64 (i : Int) ∧ o.length ≤ i ∧ Hid (TokOwn wr V.heap.size vl o) ∧ Hid (lni (bn s) n (o.map Tb.tk) i = R) ∧ Hid (∀ t ∈ o, 0 ≤ t.n ∧ 0 ≤ t.a) ∧ Hid (Below V.heap.size V wr)) (fun _ vi _ => s.size - (intOf vi).toNat)
      case atStart => exact ⟨0, [], Nat.zero_le _, rfl, Nat.zero_le _, TokOwn.nil _ _, H0, fun t ht => (by cases ht), HV⟩
      case round =>
        obtain ⟨i, o, hi, rfl, hol, HO, HR, HP, HW⟩ := hrel
        obtain ⟨a, c, hv⟩ := HO.out.form
        subst hv
        have zw := HW.out.size
        by_cases hlt : i < s.size
        rotate_left
        · have hltz : ¬ (i : Int) < (s.size : Int) := by omega
          have HL2 : Hid (line (bn s) n = (if o.length = 0 then [] else o.map Tb.tk ++ [⟨5, [], n, s.size⟩], 0, 0, 0)) := by
            show _ = _
            rw [HL.out, ← HR.out, HEN.out i _ (by omega)]
            simp only [List.length_map, bn_length]
          have R1 := hid (kept R0.out HW.out)
          have hgv : w.heap.size < V.heap.size := (Array.getElem?_eq_some_iff.1 R0.out).1
          have HBW := hid (HB.out.trans (HW.out.mono HB.out.size))
          by_cases ho : o.length = 0
          · have hoz : ¬ (0 : Int) < (o.length : Int) := by omega
            have HF : Hid (∀ W, TokOwn W w.heap.size (.slice a o.length c) o → LnR (line (bn s) n) w.heap.size (.returned (.tuple #[.slice a o.length c, .agg (fcs 0 0 0)])) W) := fun W h => ⟨_, o, h, by rw [HL2.out, if_pos ho, List.length_eq_zero_iff.1 ho]; rfl, HP.out, by rw [HL2.out]; rfl⟩
            clear HL HL2 HR HP HAT HEN HGT HBY H0 ho
            go_wp2_with (refine wpList_store_row rfl 26 (.tmp 5) _ rfl w.heap.size (fcs 0 0 0) rfl rfl 26 (fcs 0 0 0) R1.out (finfo ..) rfl (fone ..) ?_)
            exact bodyPost_ret (results_tmp_row Tryz.results18 _ _ w.heap.size 26 (fcs 0 0 0) (0, 0) _ rfl (setRow_heap _ _ _ _ _ (0, 0) R1.out) Tryz.underlying26 (finfo ..)) rfl ⟨HF.out _ (HO.out.other (by omega) (fun g hg => setRow_other _ _ _ _ (by omega))), below_row HBW.out (Nat.le_refl _) _⟩
          · have hoz : (0 : Int) < (o.length : Int) := by omega
            have HF : Hid (∀ W v, TokOwn W w.heap.size v (o ++ [⟨5, ⟨#[]⟩, (n : Int), (s.size : Int)⟩]) → LnR (line (bn s) n) w.heap.size (.returned (.tuple #[v, .agg (fcs 0 0 0)])) W) := fun W v h => ⟨_, _, h, by rw [HL2.out, if_neg ho, List.map_append]; rfl, fun t ht => (List.mem_append.1 ht).elim (HP.out t) (fun h => by rw [List.mem_singleton.1 h]; exact ⟨by simp only; omega, by simp only; omega⟩), by rw [HL2.out]; rfl⟩
            clear HL HL2 HR HP HAT HEN HGT HBY H0 ho
            go_wp2_with (first | (at_builtin; refine wpList_append_toks rfl _ _ rfl V.heap.size _ o rfl (HO.out.alloc _) _ [⟨5, ⟨#[]⟩, (n : Int), (s.size : Int)⟩] rfl (tok_new _ _) (by simp; omega) (by simp; omega) ?_; intro v' w' r' g'; have HB9 := hid (below_grow (HW.out.alloc HW.out.size _) (by simp; omega) (HO.out.alloc _) g'); have R9 := hid (kept R0.out HB9.out); have HR9 := hid r'; clear r' g') | (refine wpList_store_row rfl 26 (.tmp 5) _ rfl w.heap.size (fcs 0 0 0) rfl rfl 26 (fcs 0 0 0) R9.out (finfo ..) rfl (fone ..) ?_))
            exact bodyPost_ret (results_tmp_row Tryz.results18 _ _ w.heap.size 26 (fcs 0 0 0) (0, 0) _ rfl (setRow_heap _ _ _ _ _ (0, 0) R9.out) Tryz.underlying26 (finfo ..)) rfl ⟨HF.out _ _ (HR9.out.other (by omega) (fun g hg => setRow_other _ _ _ _ (by omega))), below_row (HB.out.trans (HB9.out.mono HB.out.size)) (Nat.le_refl _) _⟩
        have hltz : (i : Int) < (s.size : Int) := by omega
        have gy := (HGT.out i hlt).symm
        obtain ⟨z0, z1⟩ := HBY.out i hlt
        have HA := hid (fun y hy => HAT.out i y (o.map Tb.tk) hlt hy)
        obtain ⟨y, hy⟩ : ∃ y, (bn s)[i]?.getD 0 = y := ⟨_, rfl⟩
        rw [hy] at gy z0 z1
        have HA2 := hid (HA.out y hy)
        clear hy HA HAT HEN H0
        by_cases h35 : y = 35
        · have q35 : (y != 35) = false := by simpa using h35
          have HL2 : Hid (line (bn s) n = (if o.length = 0 then [] else o.map Tb.tk ++ [⟨5, [], n, s.size⟩], 0, 0, 0)) := by
            show _ = _
            rw [HL.out, ← HR.out, HA2.out.1 h35]
            simp only [List.length_map, bn_length]
          have R1 := hid (kept R0.out HW.out)
          have hgv : w.heap.size < V.heap.size := (Array.getElem?_eq_some_iff.1 R0.out).1
          have HBW := hid (HB.out.trans (HW.out.mono HB.out.size))
          by_cases ho : o.length = 0
          · have hoz : ¬ (0 : Int) < (o.length : Int) := by omega
            have HF : Hid (∀ W, TokOwn W w.heap.size (.slice a o.length c) o → LnR (line (bn s) n) w.heap.size (.returned (.tuple #[.slice a o.length c, .agg (fcs 0 0 0)])) W) := fun W h => ⟨_, o, h, by rw [HL2.out, if_pos ho, List.length_eq_zero_iff.1 ho]; rfl, HP.out, by rw [HL2.out]; rfl⟩
            clear HL HL2 HR HP HA2 h35 ho
            go_wp2_with (refine wpList_store_row rfl 26 (.tmp 5) _ rfl w.heap.size (fcs 0 0 0) rfl rfl 26 (fcs 0 0 0) R1.out (finfo ..) rfl (fone ..) ?_)
            exact bodyPost_ret (results_tmp_row Tryz.results18 _ _ w.heap.size 26 (fcs 0 0 0) (0, 0) _ rfl (setRow_heap _ _ _ _ _ (0, 0) R1.out) Tryz.underlying26 (finfo ..)) rfl ⟨HF.out _ (HO.out.other (by omega) (fun g hg => setRow_other _ _ _ _ (by omega))), below_row HBW.out (Nat.le_refl _) _⟩
          · have hoz : (0 : Int) < (o.length : Int) := by omega
            have HF : Hid (∀ W v, TokOwn W w.heap.size v (o ++ [⟨5, ⟨#[]⟩, (n : Int), (s.size : Int)⟩]) → LnR (line (bn s) n) w.heap.size (.returned (.tuple #[v, .agg (fcs 0 0 0)])) W) := fun W v h => ⟨_, _, h, by rw [HL2.out, if_neg ho, List.map_append]; rfl, fun t ht => (List.mem_append.1 ht).elim (HP.out t) (fun h => by rw [List.mem_singleton.1 h]; exact ⟨by simp only; omega, by simp only; omega⟩), by rw [HL2.out]; rfl⟩
            clear HL HL2 HR HP HA2 h35 ho
            go_wp2_with (first | (at_builtin; refine wpList_append_toks rfl _ _ rfl V.heap.size _ o rfl (HO.out.alloc _) _ [⟨5, ⟨#[]⟩, (n : Int), (s.size : Int)⟩] rfl (tok_new _ _) (by simp; omega) (by simp; omega) ?_; intro v' w' r' g'; have HB9 := hid (below_grow (HW.out.alloc HW.out.size _) (by simp; omega) (HO.out.alloc _) g'); have R9 := hid (kept R0.out HB9.out); have HR9 := hid r'; clear r' g') | (refine wpList_store_row rfl 26 (.tmp 5) _ rfl w.heap.size (fcs 0 0 0) rfl rfl 26 (fcs 0 0 0) R9.out (finfo ..) rfl (fone ..) ?_))
            exact bodyPost_ret (results_tmp_row Tryz.results18 _ _ w.heap.size 26 (fcs 0 0 0) (0, 0) _ rfl (setRow_heap _ _ _ _ _ (0, 0) R9.out) Tryz.underlying26 (finfo ..)) rfl ⟨HF.out _ _ (HR9.out.other (by omega) (fun g hg => setRow_other _ _ _ _ (by omega))), below_row (HB.out.trans (HB9.out.mono HB.out.size)) (Nat.le_refl _) _⟩
        have q35 : (y != 35) = true := by simpa using h35
        by_cases h32 : y = 32 ∨ y = 9
        · have HN := hid ((HA2.out.2.1 h32).symm.trans HR.out)
          have hq : (y == 32) = true ∨ (y == 32) = false ∧ (y == 9) = true := by rcases h32 with h | h <;> subst h <;> simp
          clear HA2 HR h35 h32
          rcases hq with q | ⟨q, q2⟩
          all_goals
            go_wp2
            go_roundw
            case rel => exact ⟨i + 1, o, by omega, by go_num, by omega, HO.out.alloc _, HN, HP, HW.out.alloc HW.out.size _⟩
            case measure => simp [intOf]; omega
        have q1 : (y == 32) = false := by simp; omega
        have q2 : (y == 9) = false := by simp; omega
        by_cases h44 : y = 44
        · have q44 : (y == 44) = true := by simpa using h44
          have HN := hid ((HA2.out.2.2.1 h44).symm.trans HR.out)
          clear HA2 HR h35 h32 h44
          go_wp2_with (at_builtin; refine wpList_append_toks rfl _ _ rfl V.heap.size _ o rfl ((HO.out.alloc _).alloc _) _ [⟨3, ⟨#[]⟩, (n : Int), (i : Int)⟩] rfl (tok_new2 _ _ _) (by simp; omega) (by simp; omega) ?_; intro v' w' r' g')
          go_roundw
          case rel => exact ⟨i + 1, o ++ [_], by omega, by go_num, by simp; omega, r', by show lni _ _ _ _ = _; rw [List.map_append]; exact HN.out, fun t ht => (List.mem_append.1 ht).elim (HP.out t) (fun h => by rw [List.mem_singleton.1 h]; exact ⟨by simp only; omega, by simp only; omega⟩), below_grow ((HW.out.alloc HW.out.size _).alloc (by simp; omega) _) (by simp; omega) ((HO.out.alloc _).alloc _) g'⟩
          case measure => simp [intOf]; omega
        by_cases h33 : y = 33
        · have q44 : (y == 44) = false := by simp; omega
          have q33 : (y == 33) = true := by simpa using h33
          have HN := hid ((HA2.out.2.2.2.1 h33).symm.trans HR.out)
          clear HA2 HR h35 h32 h44 h33
          go_wp2_with (at_builtin; refine wpList_append_toks rfl _ _ rfl V.heap.size _ o rfl ((HO.out.alloc _).alloc _) _ [⟨4, ⟨#[]⟩, (n : Int), (i : Int)⟩] rfl (tok_new2 _ _ _) (by simp; omega) (by simp; omega) ?_; intro v' w' r' g')
          go_roundw
          case rel => exact ⟨i + 1, o ++ [_], by omega, by go_num, by simp; omega, r', by show lni _ _ _ _ = _; rw [List.map_append]; exact HN.out, fun t ht => (List.mem_append.1 ht).elim (HP.out t) (fun h => by rw [List.mem_singleton.1 h]; exact ⟨by simp only; omega, by simp only; omega⟩), below_grow ((HW.out.alloc HW.out.size _).alloc (by simp; omega) _) (by simp; omega) ((HO.out.alloc _).alloc _) g'⟩
          case measure => simp [intOf]; omega
        by_cases h34 : y = 34
        · have q44 : (y == 44) = false := by simp; omega
          have q33 : (y == 33) = false := by simp; omega
          have q34 : (y == 34) = true := by simpa using h34
          have HTX : Hid (∀ W, Calls Tryz.prog 41 #[.string (s.extract i s.size)] W fun e W' => (∃ t : ByteArray, bn t = (txl ((bn s).drop i)).1 ∧ e = .returned (.tuple #[.string t, .int .i64 (txl ((bn s).drop i)).2.1, .int .i64 (txl ((bn s).drop i)).2.2])) ∧ Below W.heap.size W W') := fun W => by
            have h := rtext_any (s.extract i s.size) (by simp; omega) (by simp; omega) W
            rw [bn_extract] at h
            exact h
          have hle := txl_le (l := (bn s).drop i) (by rw [List.length_drop, bn_length]; omega)
          rw [List.length_drop, bn_length] at hle
          have HA5 := hid (HA2.out.2.2.2.2.1 h34)
          have HA6 := hid (HA2.out.2.2.2.2.2.1 h34)
          obtain ⟨⟨x, k, wh⟩, hX⟩ : ∃ X, txl ((bn s).drop i) = X := ⟨_, rfl⟩
          simp only [hX] at HTX HA5 HA6 hle
          clear hX HA2 h35 h32 h44 h33 h34
          obtain ⟨hle1, hle2⟩ := hle
          by_cases hk : k = 0
          · have HL2 : Hid (line (bn s) n = ([], 151, n, i + wh)) := by
              show _ = _
              rw [HL.out, ← HR.out, HA5.out hk]
            subst hk
            have hgv : w.heap.size < V.heap.size := (Array.getElem?_eq_some_iff.1 R0.out).1
            clear HL HA5 HA6 HR HP
            go_wp2_with fail
            refine (HTX.out _).mono ?_
            rintro e w5 ⟨⟨t, ht, rfl⟩, B⟩
            have HB5 := hid ((HW.out.alloc HW.out.size _).trans (B.mono (by simp; omega)))
            have R5 := hid (kept R0.out HB5.out)
            replace HB := hid (HB.out.trans (HB5.out.mono HB.out.size))
            clear B HTX HB5
            have hwz : (0 : Int) ≤ (i : Int) + (wh : Int) := by omega
            go_wp2_with (refine wpList_store_row rfl 26 (.tmp 5) _ rfl w.heap.size (fcs 151 n (i + wh : Nat)) rfl rfl 26 (fcs 0 0 0) R5.out (finfo ..) rfl (fone ..) ?_)
            exact bodyPost_ret (results_tmp_row Tryz.results18 _ _ w.heap.size 26 (fcs 151 n (i + wh : Nat)) (0, 0) _ rfl (setRow_heap _ _ _ _ _ (0, 0) R5.out) Tryz.underlying26 (finfo ..)) rfl ⟨LnR.no HL2.out _ _, below_row HB.out (Nat.le_refl _) _⟩
          · have hkz : ¬ (k : Int) = 0 := by omega
            have HN := hid ((HA6.out hk).symm.trans HR.out)
            clear HA5 HA6 HR HL
            go_wp2_with fail
            refine (HTX.out _).mono ?_
            rintro e w5 ⟨⟨t, ht, rfl⟩, B⟩
            have RT : Hid (w5.heap[wr.heap.size]? = some (.cells (tcs ⟨0, ⟨#[]⟩, (n : Int), (i : Int)⟩) 40 (0, 0))) := kept (box_at wr _ _) B
            have HS : Hid (wr.heap.size < w5.heap.size) := (Array.getElem?_eq_some_iff.1 RT.out).1
            have HJ : Hid (∀ j, j < wr.heap.size → w5.heap[j]? = wr.heap[j]?) := fun j h => (B.block j (by simp; omega)).trans (by show (wr.heap.push _)[j]? = _; rw [Array.getElem?_push, if_neg (Nat.ne_of_lt h)])
            have HBB := hid ((HW.out.alloc HW.out.size _).trans (B.mono (by simp; omega)))
            clear B HTX
            rw [← ht] at HN
            clear ht
            obtain ⟨c0, c1, c2, c3⟩ := tcells RT.out
            have f0 : w5.frozen? ⟨wr.heap.size, 0, none⟩ = false := Lib.frozen_of_heap RT.out 0
            have f1 : w5.frozen? ⟨wr.heap.size, 1, none⟩ = false := Lib.frozen_of_heap RT.out 1
            have HOW : Hid (∀ u v, TokOwn ((w5.setCell ⟨wr.heap.size, 0, none⟩ u).setCell ⟨wr.heap.size, 1, none⟩ v) V.heap.size (.slice a o.length c) o) := fun u v => HO.out.stay (fun g hg => (Below.heap_setCell _ _ _ _ (Nat.ne_of_lt hg)).trans ((Below.heap_setCell _ _ _ _ (Nat.ne_of_lt hg)).trans (HJ.out g hg)))
            have HVW : Hid (V.heap.size ≤ wr.heap.size) := HW.out.size
            have HBS : Hid (∀ u v, Below V.heap.size V ((w5.setCell ⟨wr.heap.size, 0, none⟩ u).setCell ⟨wr.heap.size, 1, none⟩ v)) := fun u v => (HBB.out.setCell (p := ⟨wr.heap.size, 0, none⟩) HVW.out _).setCell (p := ⟨wr.heap.size, 1, none⟩) HVW.out _
            have HTN : Hid (TokAt (((w5.setCell ⟨wr.heap.size, 0, none⟩ (.int .u8 2)).setCell ⟨wr.heap.size, 1, none⟩ (.string t)).alloc (.cells (tcs ⟨2, t, (n : Int), (i : Int)⟩) 40)) (.slice (some ⟨w5.heap.size, 0, none⟩) 1 1) [⟨2, t, (n : Int), (i : Int)⟩]) := by
              have h := tok_new ((w5.setCell ⟨wr.heap.size, 0, none⟩ (.int .u8 2)).setCell ⟨wr.heap.size, 1, none⟩ (.string t)) ⟨2, t, (n : Int), (i : Int)⟩
              rw [World.size_setCell, World.size_setCell] at h
              exact h
            have hsz5 : V.heap.size ≤ w5.heap.size := HBB.out.size
            clear HJ HS HO
            go_wp2_with (at_builtin; refine wpList_append_toks rfl _ _ rfl V.heap.size _ o rfl ((HOW.out _ _).alloc _) _ [⟨2, t, (n : Int), (i : Int)⟩] rfl HTN.out (by simp; omega) (by simp; omega) ?_; intro v' w' r' g')
            go_roundw
            case rel => exact ⟨i + k, o ++ [_], by omega, by go_num, by simp; omega, r', by show lni _ _ _ _ = _; rw [List.map_append]; exact HN.out, fun t ht => (List.mem_append.1 ht).elim (HP.out t) (fun h => by rw [List.mem_singleton.1 h]; exact ⟨by simp only; omega, by simp only; omega⟩), below_grow ((HBS.out _ _).alloc (HBS.out _ _).size _) (by simp; omega) ((HOW.out _ _).alloc _) g'⟩
            case measure => simp [intOf]; omega
        have hen : en y = false := by unfold en; simp; omega
        have q44 : (y == 44) = false := by simp; omega
        have q33 : (y == 33) = false := by simp; omega
        have q34 : (y == 34) = false := by simp; omega
        have HN7 := hid ((HA2.out.2.2.2.2.2.2 hen).1.symm.trans HR.out)
        have HN1 := hid (HA2.out.2.2.2.2.2.2 hen).2
        have HWM : Hid (∀ j, i + j < s.size → (∀ k, k < j → nen ((bn s)[i + k]?.getD 0) = true) → nen ((bn s)[i + j]?.getD 0) = false → wrd (bn s) i = ((bn s).drop i).take j) := fun j hj h he => wrd_more (by rw [bn_length]; exact hj) h he
        have HWA : Hid (∀ j, i + j = s.size → (∀ k, k < j → nen ((bn s)[i + k]?.getD 0) = true) → wrd (bn s) i = ((bn s).drop i).take j) := fun j hj h => wrd_all (by rw [bn_length]; exact hj) h
        have HTS : Hid (∀ m, m < s.size → bn (s.extract m (m + 1)) = [(bn s)[m]?.getD 0] ∧ (s.extract m (m + 1)).size = 1) := fun m hm => ⟨bn_one s m hm, by have h := congrArg List.length (bn_one s m hm); rw [bn_length] at h; exact h⟩
        have HDT : Hid (∀ j, i + j < s.size → ((bn s).drop i).take (j + 1) = ((bn s).drop i).take j ++ [(bn s)[i + j]?.getD 0]) := fun j hj => by rw [take_snoc (by rw [List.length_drop, bn_length]; omega), List.getElem?_drop]
        have HLT : Hid (∀ j, i + j ≤ s.size → (((bn s).drop i).take j).length = j) := fun j hj => by rw [List.length_take, List.length_drop, bn_length]; omega
        clear HA2 HR HL h35 h32 h44 h33 h34 hen
        rename World => WO
        go_wp2_with fail
        clear gy
        go_loopw [8] (fun vi wr => ∃ (m j : Nat) (u : ByteArray), m ≤ s.size ∧ i ≤ m ∧ u.size ≤ m ∧ vi = .int .i64 (m : Int) ∧ Hid (m = i + j) ∧ Hid (∀ k, k < j → nen ((bn s)[i + k]?.getD 0) = true) ∧ Hid (bn u = ((bn s).drop i).take j) ∧ Hid (wr.heap[WO.heap.size]? = some (.cells (tcs ⟨1, u, (n : Int), (i : Int)⟩) 40 (0, 0))) ∧ Hid (∀ g, g < WO.heap.size → wr.heap[g]? = WO.heap[g]?) ∧ Hid (Below V.heap.size V wr)) (fun vi _ => s.size - (intOf vi).toNat)
        case atStart => exact ⟨i, 0, ⟨#[]⟩, by omega, Nat.le_refl _, Nat.zero_le _, rfl, rfl, fun k hk => by omega, rfl, box_at WO _ _, fun g hg => by show (WO.heap.push _)[g]? = _; rw [Array.getElem?_push, if_neg (Nat.ne_of_lt hg)], HW.out.alloc HW.out.size _⟩
        case round =>
          obtain ⟨m, j, u, hms, him, hum, rfl, HM, HK, HU, RT, HJ, HBB⟩ := hrel
          have HS : Hid (WO.heap.size < wr.heap.size) := (Array.getElem?_eq_some_iff.1 RT.out).1
          have HEXIT : Hid (wrd (bn s) i = ((bn s).drop i).take j → lni (bn s) n (o.map Tb.tk ++ [⟨1, bn u, n, i⟩]) m = R ∧ 1 ≤ j) := fun h => by
            have h1 := HN7.out
            have h2 := HN1.out
            have h3 := HLT.out j (by have := HM.out; omega)
            rw [h, h3] at h2
            rw [h, h3, ← HU.out, ← HM.out] at h1
            exact ⟨h1, h2⟩
          by_cases hlt2 : m < s.size
          rotate_left
          · have b1 : ¬ (m : Int) < (s.size : Int) := by omega
            obtain ⟨h1, h2⟩ := HEXIT.out (HWA.out j (by have := HM.out; omega) HK.out)
            have HQ := hid h1
            have him2 : i + 1 ≤ m := by have := HM.out; omega
            clear HEXIT HWA HWM HN7 HN1 HTS HDT HLT HGT HBY h1 h2 HM HK HU hlt2
            obtain ⟨c0, c1, c2, c3⟩ := tcells RT.out
            have HOW : Hid (TokOwn wr V.heap.size (.slice a o.length c) o) := HO.out.stay HJ.out
            go_wp2_with (at_builtin; refine wpList_append_toks rfl _ _ rfl V.heap.size _ o rfl (HOW.out.alloc _) _ [⟨1, u, (n : Int), (i : Int)⟩] rfl (tok_new _ _) (by simp; omega) (by have := HBB.out.size; simp; omega) ?_; intro v' w' r' g')
            go_roundw
            case rel => exact ⟨m, o ++ [_], by omega, by go_num, by simp; omega, r', by show lni _ _ _ _ = _; rw [List.map_append]; exact HQ.out, fun t ht => (List.mem_append.1 ht).elim (HP.out t) (fun h => by rw [List.mem_singleton.1 h]; exact ⟨by simp only; omega, by simp only; omega⟩), below_grow (HBB.out.alloc HBB.out.size _) (by have := HBB.out.size; simp; omega) (HOW.out.alloc _) g'⟩
            case measure => simp [intOf]; omega
          have b1 : (m : Int) < (s.size : Int) := by omega
          have g2 := (HGT.out m hlt2).symm
          obtain ⟨z2, z3⟩ := HBY.out m hlt2
          obtain ⟨y2, hc⟩ : ∃ y2, (bn s)[m]?.getD 0 = y2 := ⟨_, rfl⟩
          rw [hc] at g2 z2 z3
          have HC := hid hc
          have HEC := hid (rends_any y2 z2 z3 wr)
          clear hc
          cases he : en y2 with
          | true =>
            rw [he] at HEC
            obtain ⟨h1, h2⟩ := HEXIT.out (HWM.out j (by have := HM.out; omega) HK.out (by rw [← HM.out, HC.out]; unfold nen; rw [he]; rfl))
            have HQ := hid h1
            have him2 : i + 1 ≤ m := by have := HM.out; omega
            clear HEXIT HWA HWM HN7 HN1 HTS HDT HLT HGT HBY h1 h2 HM HK HU HC he
            go_wp2_with fail
            refine HEC.out.mono ?_
            rintro e w5 ⟨rfl, h5⟩
            obtain rfl := h5.symm
            clear h5
            clear HEC
            obtain ⟨c0, c1, c2, c3⟩ := tcells RT.out
            have HOW : Hid (TokOwn wr V.heap.size (.slice a o.length c) o) := HO.out.stay HJ.out
            go_wp2_with (at_builtin; refine wpList_append_toks rfl _ _ rfl V.heap.size _ o rfl (HOW.out.alloc _) _ [⟨1, u, (n : Int), (i : Int)⟩] rfl (tok_new _ _) (by simp; omega) (by have := HBB.out.size; simp; omega) ?_; intro v' w' r' g')
            go_roundw
            case rel => exact ⟨m, o ++ [_], by omega, by go_num, by simp; omega, r', by show lni _ _ _ _ = _; rw [List.map_append]; exact HQ.out, fun t ht => (List.mem_append.1 ht).elim (HP.out t) (fun h => by rw [List.mem_singleton.1 h]; exact ⟨by simp only; omega, by simp only; omega⟩), below_grow (HBB.out.alloc HBB.out.size _) (by have := HBB.out.size; simp; omega) (HOW.out.alloc _) g'⟩
            case measure => simp [intOf]; omega
          | false =>
            rw [he] at HEC
            have h1 := HTS.out m hlt2
            rw [HC.out] at h1
            have HX := hid h1.1
            have hx1 := h1.2
            have hx2 : (s.extract m (m + 1)).size ≤ 1 := by omega
            have HD1 : Hid (((bn s).drop i).take (j + 1) = ((bn s).drop i).take j ++ [y2]) := by show _ = _; rw [HDT.out j (by have := HM.out; omega), ← HM.out, HC.out]
            have HK1 : Hid (∀ k, k < j + 1 → nen ((bn s)[i + k]?.getD 0) = true) := fun k hk => by
              by_cases h : k = j
              · rw [h, ← HM.out, HC.out]; unfold nen; rw [he]; rfl
              · exact HK.out k (by omega)
            have c1 : wr.cell? ⟨WO.heap.size, 1, none⟩ = some (.string u) := cell_of_row _ _ _ _ _ _ RT.out
            have f1 : wr.frozen? ⟨WO.heap.size, 1, none⟩ = false := Lib.frozen_of_heap RT.out 1
            have HVW : Hid (V.heap.size ≤ WO.heap.size) := HW.out.size
            clear HEXIT HWA HWM HN7 HN1 HTS HDT HLT HGT HBY h1 hx1 HC he
            go_wp2_with fail
            refine HEC.out.mono ?_
            rintro e w5 ⟨rfl, h5⟩
            obtain rfl := h5.symm
            clear h5
            clear HEC
            have hadd : ¬ 9223372036854775807 < u.size + (s.extract m (m + 1)).size := by omega
            go_wp2
            go_region
            go_wp2
            go_roundw
            case rel => exact ⟨m + 1, j + 1, u ++ s.extract m (m + 1), by omega, by omega, by rw [ByteArray.size_append]; omega, by go_num, by show _ = _; have := HM.out; omega, HK1, by show _ = _; rw [bn_append, HU.out, HX.out, HD1.out], cell_row RT.out 1 _, fun g hg => (Below.heap_setCell _ _ _ _ (Nat.ne_of_lt hg)).trans (HJ.out g hg), (HBB.out.setCell (p := ⟨WO.heap.size, 1, none⟩) HVW.out _).drew⟩
            case measure => simp [intOf]; omega
end Go.Proofs.YtphkdagapoonjaaGreatDoor.Lx
