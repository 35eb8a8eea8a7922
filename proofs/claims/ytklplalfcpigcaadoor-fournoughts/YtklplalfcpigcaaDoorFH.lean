/- The document's Parse. (Stage 10.) -/
import Derived.Test.YtklplalfcpigcaaDoorFE
import Derived.Test.YtklplalfcpigcaaDoorFR
namespace Go.Proofs.YtklplalfcpigcaaDoor.F
open Go.RowKit
set_option linter.unusedVariables false

def any4 (xs : List (Nat × Int)) : Bool := xs.any (fun x => decide (x.2 = 4))
def any8 (xs : List (Nat × Int)) : Bool := xs.any (fun x => decide (x.2 = 8))
theorem lg_split (t : Nat) : ∀ xs : List (Nat × Int), lg t xs = (any4 xs || grt t (xs.map (·.1)))
  | [] => rfl
  | [x] => by simp [lg, any4, grt]
  | x :: y :: r => by
    have ih := lg_split t (y :: r)
    have e1 : lg t (x :: y :: r) = (decide (x.2 = 4) || decide (255 < x.1) || lg t (y :: r)) := rfl
    have e2 : any4 (x :: y :: r) = (decide (x.2 = 4) || any4 (y :: r)) := rfl
    have e3 : grt t ((x :: y :: r).map (·.1)) = (decide (255 < x.1) || grt t ((y :: r).map (·.1))) := rfl
    rw [e1, ih, e2, e3]
    cases decide (x.2 = 4) <;> cases decide (255 < x.1) <;> cases any4 (y :: r) <;> rfl
theorem sm_fst : ∀ (xs : List (Nat × Int)) (i : Nat), sm i xs = smN i (xs.map (·.1))
  | [], i => rfl
  | [x], i => rfl
  | x :: y :: r, i => by
    have ih := sm_fst (y :: r) (i + 1)
    show x.1 * 256 ^ (3 - i) + sm (i + 1) (y :: r) = x.1 * 256 ^ (3 - i) + smN (i + 1) ((y :: r).map (·.1))
    rw [ih]
theorem any_step {p : Nat × Int → Bool} (xs : List (Nat × Int)) (k : Nat) (hk : k < xs.length) : (xs.take (k + 1)).any p = ((xs.take k).any p || p (xs[k]?.getD (0, 0))) := by
  rw [List.take_succ_eq_append_getElem hk, List.any_append, List.getElem?_eq_getElem hk]; simp
theorem num_bd (l : List Int) : (num l).1 < 4294967296 := by unfold num; (repeat' split) <;> simp_all <;> omega
theorem num_er (l : List Int) : 0 ≤ (num l).2 ∧ (num l).2 ≤ 8 := by unfold num; (repeat' split) <;> simp
theorem small_sum {ns : List Nat} (h1 : 1 ≤ ns.length) (h4 : ns.length ≤ 4) (h : grt ns.length ns = false) : smN 0 ns < 4294967296 := by
  match ns, h1, h4, h with
  | [a], _, _, h => have := of_decide_eq_false h; simp at this; show a < _; omega
  | [a, b], _, _, h =>
    simp [grt] at h
    show a * 256 ^ 3 + b < _
    omega
  | [a, b, c], _, _, h =>
    simp [grt] at h
    show a * 256 ^ 3 + (b * 256 ^ 2 + c) < _
    omega
  | [a, b, c, d], _, _, h =>
    simp [grt] at h
    show a * 256 ^ 3 + (b * 256 ^ 2 + (c * 256 ^ 1 + d)) < _
    omega
theorem Tryd.info64 : (Tryd.prog.info? 24).map (fun i => (i.zero, i.size, i.bytes)) = some (some (.int .u64 0), 1, 8) := by kernel_rfl
theorem own_shU {base n : Nat} {v : Value} {X : List Value} {W : World} (h : W.ownsRow base 24 1 v n X) : ∃ a cap, v = .slice a n cap := by
  rcases h.2 with ⟨rfl, h0⟩ | ⟨g, cap, cur, rfl, _⟩
  · exact ⟨none, 0, by rw [h0]⟩
  · exact ⟨_, cap, rfl⟩
theorem lt_cell {w : World} {p : Addr} {v : Value} (h : w.cell? p = some v) : p.block < w.heap.size := by
  rcases Nat.lt_or_ge p.block w.heap.size with hb | hb
  · exact hb
  · simp [World.cell?, Array.getElem?_eq_none hb] at h
theorem own_cellsU {W : World} {base n : Nat} {v : Value} {ns : List Nat} (hn : n = ns.length) (h : W.ownsRow base 24 1 v n (ns.map (fun x => Value.int .u64 (x : Nat)))) : ∃ a c, v = .slice a n c ∧ (0 < n → ∃ b, a = some ⟨b, 0, none⟩ ∧ ∀ j, j < n → W.cell? ⟨b, j, none⟩ = some (.int .u64 ((ns[j]?.getD 0 : Nat) : Int))) := by
  rcases h.2 with ⟨rfl, h0⟩ | ⟨g, cap, cur, rfl, hg, h3, h4⟩
  · exact ⟨none, 0, by rw [h0], fun h => by omega⟩
  · refine ⟨_, cap, rfl, fun _ => ⟨g, rfl, fun j hj => ?_⟩⟩
    rw [h.cellAt j (by omega), List.getElem?_map, List.getElem?_eq_getElem (by omega)]; rfl
theorem drop_N {l : List Nat} {i : Nat} (h : i < l.length) : l.drop i = l[i]?.getD 0 :: l.drop (i + 1) := by
  rw [List.drop_eq_getElem_cons h, List.getElem?_eq_getElem h]; rfl
theorem step_more {t : Nat} {ns : List Nat} {j : Nat} (h : j + 1 < ns.length) : smN j (ns.drop j) = (ns[j]?.getD 0) * 256 ^ (3 - j) + smN (j + 1) (ns.drop (j + 1)) ∧ grt t (ns.drop j) = (decide (255 < ns[j]?.getD 0) || grt t (ns.drop (j + 1))) := by
  rw [drop_N (by omega : j < ns.length), drop_N h]
  exact ⟨rfl, rfl⟩
theorem step_last {t : Nat} {ns : List Nat} {j : Nat} (h : j + 1 = ns.length) : smN j (ns.drop j) = ns[j]?.getD 0 ∧ grt t (ns.drop j) = decide (256 ^ (5 - t) ≤ ns[j]?.getD 0) := by
  rw [drop_N (by omega : j < ns.length), List.drop_eq_nil_of_le (by omega : ns.length ≤ j + 1)]
  exact ⟨rfl, rfl⟩
/-- What Parse answers. -/
def ParR (l : List Int) (w : World) (e : Ending) (W' : World) : Prop := e = .returned (.tuple #[.int .u32 ((prs l).1 : Nat), .int .i64 (prs l).2]) ∧ Below w.heap.size w W'
set_option maxRecDepth 100000 in
set_option maxHeartbeats 8000000 in
theorem rparse_any (s : ByteArray) (w : World) (hs : s.size ≤ 100000) :
    Calls Tryd.prog 11 #[.string s] w fun e W' => ParR (bn s) w e W' := by
  obtain ⟨i0, hi0, hz0, hz1, hz2⟩ := info_parts Tryd.info64
  have HPA := hid (rparts_any s w hs)
  have HRT : Hid (∀ (x : Nat) (y : Int) e W, prs (bn s) = (x, y) → e = .returned (.tuple #[.int .u32 x, .int .i64 y]) → Below w.heap.size w W → ParR (bn s) w e W) := fun x y e W h he hB => by unfold ParR; rw [h]; exact ⟨he, hB⟩
  go_enter Tryd.func11, Tryd.ntmps11
  go_wp2_with fail
  refine HPA.out.mono ?_
  rintro e w1 ⟨⟨b, c, qs, rfl, hne, hqs, hcb⟩, B1⟩
  have HB1 := hid B1
  have HLN : Hid (((prt (bn s)).map num).length = qs.length) := by show _ = _; rw [List.length_map, ← hqs, List.length_map]
  have HNM : Hid (∀ i, i < qs.length → ((prt (bn s)).map num)[i]?.getD (0, 0) = num (bn (qs[i]?.getD ⟨#[]⟩))) := fun i hi => by
    rw [← hqs, List.getElem?_map, List.getElem?_map, List.getElem?_eq_getElem hi]; rfl
  have HSZ : Hid (∀ i, i < qs.length → (qs[i]?.getD ⟨#[]⟩).size ≤ 100000) := fun i hi => by
    have h1 : qs[i]?.getD ⟨#[]⟩ ∈ qs := by rw [List.getElem?_eq_getElem hi]; exact List.getElem_mem _
    exact Nat.le_trans (parts_size hqs h1) hs
  have HPR : Hid (prs (bn s) = if 4 < qs.length then (0, 8) else if any8 ((prt (bn s)).map num) = true then (0, 8) else if lg qs.length ((prt (bn s)).map num) = true then (0, 4) else (sm 0 ((prt (bn s)).map num), 0)) := by
    show _ = _
    have hl : (prt (bn s)).length = qs.length := by rw [← hqs, List.length_map]
    unfold prs adr
    rw [hl]; rfl
  have hq1 := List.length_pos_iff.2 hne
  have HCB := hid hcb
  obtain ⟨xs, hxs⟩ : ∃ xs, (prt (bn s)).map num = xs := ⟨_, rfl⟩
  rw [hxs] at HLN HNM HPR
  obtain ⟨t, ht⟩ : ∃ t, qs.length = t := ⟨_, rfl⟩
  rw [ht] at HLN HNM HPR HSZ HCB hq1 ⊢
  clear hxs ht hqs hcb hne B1 HPA
  by_cases h4 : 4 < t
  · have h4z : (4 : Int) < (t : Int) := by omega
    have HP := hid (HPR.out.trans (if_pos h4))
    clear HPR HNM HSZ HCB HLN
    go_wp2
    go_ret2
    exact HRT.out _ _ _ _ HP.out rfl HB1.out
  · have h4z : ¬ (4 : Int) < (t : Int) := by omega
    have HP := hid (HPR.out.trans (if_neg h4))
    clear HPR
    go_wp2_with fail
    go_loopw [5, 6, 7] (fun v5 v6 v7 wr => ∃ (i c' : Nat) (a : Option Addr) (g : Bool), i ≤ t ∧ v5 = .slice a i c' ∧ v6 = .bool g ∧ v7 = .int .i64 i ∧ Hid (g = any4 (xs.take i)) ∧ Hid (any8 (xs.take i) = false) ∧ Hid (wr.ownsRow w1.heap.size 24 1 (.slice a i c') i ((xs.take i).map (fun x => Value.int .u64 (x.1 : Nat)))) ∧ Hid (Below w1.heap.size w1 wr)) (fun _ _ v7 _ => t - (intOf v7).toNat)
    case atStart => exact ⟨0, 0, none, false, Nat.zero_le _, rfl, rfl, rfl, rfl, rfl, World.ownsRow_nil _ _ _ _, Below.refl _ _⟩
    case round =>
      obtain ⟨i, c', a, g, hi, rfl, rfl, rfl, HG, H8, HR, HB⟩ := hrel
      have zj := HB.out.size
      by_cases hlt : i < t
      · have hcw := HCB.out i hlt
        have hcr : wr.cell? ⟨b, i, none⟩ = some (.string (qs[i]?.getD ⟨#[]⟩)) := (HB.out.cell (p := ⟨b, i, none⟩) (lt_cell hcw)).trans hcw
        have HNU : Hid (∀ W, Calls Tryd.prog 9 #[.string (qs[i]?.getD ⟨#[]⟩)] W fun e W' => e = .returned (.tuple #[.int .u64 ((num (bn (qs[i]?.getD ⟨#[]⟩))).1 : Nat), .int .i64 (num (bn (qs[i]?.getD ⟨#[]⟩))).2]) ∧ W' = W) := fun W => rnumber_any _ W (HSZ.out i hlt)
        have hxi : i < xs.length := by rw [HLN.out]; exact hlt
        have HS4 := hid (any_step (p := fun x => decide (x.2 = 4)) xs i hxi)
        have HS8 := hid (any_step (p := fun x => decide (x.2 = 8)) xs i hxi)
        have HTK : Hid (xs.take (i + 1) = xs.take i ++ [xs[i]?.getD (0, 0)]) := by show _ = _; rw [List.take_succ_eq_append_getElem hxi, List.getElem?_eq_getElem hxi]; rfl
        have HAL : Hid ((xs[i]?.getD (0, 0)).2 = 8 → any8 xs = true) := fun h => by
          refine List.any_eq_true.2 ⟨xs[i], List.getElem_mem hxi, ?_⟩
          rw [List.getElem?_eq_getElem hxi] at h
          exact decide_eq_true h
        rw [← HNM.out i hlt] at HNU
        have hbd : (xs[i]?.getD (0, 0)).1 < 4294967296 := by rw [HNM.out i hlt]; exact num_bd _
        obtain ⟨D, hD⟩ : ∃ D, qs[i]?.getD ⟨#[]⟩ = D := ⟨_, rfl⟩
        rw [hD] at hcr HNU
        obtain ⟨y, hy⟩ : ∃ y, xs[i]?.getD (0, 0) = y := ⟨_, rfl⟩
        rw [hy] at HNU HS4 HS8 HTK HAL hbd
        obtain ⟨n1, n2⟩ := y
        simp only at HNU HS4 HS8 HAL hbd
        clear hcw hD hy hxi
        by_cases h8 : n2 = 8
        · have HP2 := hid (HP.out.trans (if_pos (HAL.out h8)))
          subst h8
          have HBW := hid (HB1.out.trans (HB.out.mono HB1.out.size))
          clear HS4 HS8 HTK HAL HNM HSZ HCB HR HB
          go_wp2_with (go_at_call 9; refine (HNU.out _).mono ?_; rintro e w2 ⟨rfl, hw2⟩; obtain rfl := hw2.symm)
          go_ret2
          exact HRT.out _ _ _ _ HP2.out rfl HBW.out
        · have b8 : (n2 == 8) = false := by simpa using h8
          have H8' : Hid (any8 (xs.take (i + 1)) = false) := by
            show _ = _
            have h1 := HS8.out
            have h2 := H8.out
            unfold any8 at h2 ⊢
            rw [h1, h2, decide_eq_false h8]; rfl
          have HG' : Hid (any4 (xs.take (i + 1)) = (g || decide (n2 = 4))) := by
            show _ = _
            rw [HG.out]
            exact HS4.out
          have HRW : Hid ((xs.take (i + 1)).map (fun x => Value.int .u64 (x.1 : Nat)) = (xs.take i).map (fun x => Value.int .u64 (x.1 : Nat)) ++ [.int .u64 n1]) := by show _ = _; rw [HTK.out, List.map_append]; rfl
          clear HS4 HS8 HTK HAL h8 HG H8
          obtain ⟨f, hf⟩ : ∃ f, decide (n2 = 4) = f := ⟨_, rfl⟩
          rw [hf] at HG'
          have hfb : (n2 == 4) = f := by rw [← hf]; rfl
          clear hf
          cases g with
          | true =>
            go_wp2_with (first
              | (go_at_call 9; refine (HNU.out _).mono ?_; rintro e w2 ⟨rfl, hw2⟩; obtain rfl := hw2.symm)
              | (at_builtin; refine wpList_append_own _ rfl _ _ 50 rfl w1.heap.size 24 i0 (.int .u64 0) 1 8 Tryd.underlying50 hi0 hz0 hz1 hz2 rfl (by decide) _ _ _ rfl (HR.out.alloc _) ⟨wr.heap.size, 0, none⟩ 1 1 [.int .u64 n1] rfl rfl (news_one _ _ _) (by simp [Value.oneCell']) (by unfold maxLen; omega) (by omega) (by simp; omega) ?_; intro v3 w3 r3 g3 _; obtain ⟨a3, c3, rfl⟩ := own_shU r3))
            go_roundw
            case rel =>
              refine ⟨i + 1, c3, a3, true, by omega, rfl, rfl, by go_num, by show _ = _; rw [HG'.out]; rfl, H8', ?_, below_grow (w1 := wr.alloc (.cells #[.int .u64 n1] 24)) (HB.out.alloc HB.out.size _) (Nat.le_trans HB.out.size (by simp)) (HR.out.alloc _) g3⟩
              show World.ownsRow _ _ _ _ _ _ _
              rw [HRW.out]; exact r3
            case measure => simp [intOf]; omega
          | false =>
            go_wp2_with (first
              | (go_at_call 9; refine (HNU.out _).mono ?_; rintro e w2 ⟨rfl, hw2⟩; obtain rfl := hw2.symm)
              | (at_builtin; refine wpList_append_own _ rfl _ _ 50 rfl w1.heap.size 24 i0 (.int .u64 0) 1 8 Tryd.underlying50 hi0 hz0 hz1 hz2 rfl (by decide) _ _ _ rfl (HR.out.alloc _) ⟨wr.heap.size, 0, none⟩ 1 1 [.int .u64 n1] rfl rfl (news_one _ _ _) (by simp [Value.oneCell']) (by unfold maxLen; omega) (by omega) (by simp; omega) ?_; intro v3 w3 r3 g3 _; obtain ⟨a3, c3, rfl⟩ := own_shU r3))
            go_roundw
            case rel =>
              refine ⟨i + 1, c3, a3, f, by omega, rfl, rfl, by go_num, by show _ = _; rw [HG'.out]; rfl, H8', ?_, below_grow (w1 := wr.alloc (.cells #[.int .u64 n1] 24)) (HB.out.alloc HB.out.size _) (Nat.le_trans HB.out.size (by simp)) (HR.out.alloc _) g3⟩
              show World.ownsRow _ _ _ _ _ _ _
              rw [HRW.out]; exact r3
            case measure => simp [intOf]; omega
      · have hit : i = t := by omega
        subst hit
        have htk : xs.take i = xs := List.take_of_length_le (by rw [HLN.out]; exact Nat.le_refl _)
        rw [htk] at HG H8 HR
        obtain ⟨ns, hns⟩ : ∃ ns, xs.map (·.1) = ns := ⟨_, rfl⟩
        have HNL : Hid (ns.length = i) := by show _ = _; rw [← hns, List.length_map]; exact HLN.out
        have HR' : Hid (wr.ownsRow w1.heap.size 24 1 (.slice a i c') i (ns.map (fun x => Value.int .u64 (x : Nat)))) := by
          show World.ownsRow _ _ _ _ _ _ _
          rw [← hns, List.map_map]
          exact HR.out
        have HNB : Hid (∀ j, j < i → ns[j]?.getD 0 < 4294967296) := fun j hj => by
          have h1 : j < xs.length := by rw [HLN.out]; exact hj
          have h2 := HNM.out j hj
          rw [List.getElem?_eq_getElem h1] at h2
          rw [← hns, List.getElem?_map, List.getElem?_eq_getElem h1]
          show xs[j].1 < _
          rw [show xs[j] = num _ from h2]
          exact num_bd _
        have HP2 : Hid (prs (bn s) = if (g || grt i ns) = true then (0, 4) else (smN 0 ns, 0)) := by
          show _ = _
          rw [HP.out, if_neg (by rw [H8.out]; simp), lg_split, ← HG.out, sm_fst, hns]
        have HSM : Hid (grt i ns = false → smN 0 ns < 4294967296) := fun h => small_sum (by rw [HNL.out]; exact hq1) (by rw [HNL.out]; omega) (by rw [HNL.out]; exact h)
        obtain ⟨a', c2, e', hf⟩ := own_cellsU HNL.out.symm HR'.out
        cases e'
        obtain ⟨B, rfl, hcB⟩ := hf hq1
        have HCN := hid hcB
        have HBW := hid (HB1.out.trans (HB.out.mono HB1.out.size))
        obtain ⟨t, ht⟩ : ∃ t, i = t := ⟨_, rfl⟩
        rw [ht] at HNL HNB HP2 HSM HCN hq1 h4 h4z ⊢
        clear htk hns HR HR' hf hcB HG H8 HP HNM HSZ HCB HLN HB hlt ht hi
        go_wp2_with fail
        go_loop [6, 10, 11] (fun v6 v10 v11 => ∃ (j acc : Nat) (g' : Bool), j ≤ t ∧ acc ≤ j * 72057594037927936 ∧ j ≤ 4 ∧ v6 = .bool g' ∧ v10 = .int .u64 acc ∧ v11 = .int .i64 j ∧ Hid ((g || grt t ns) = (g' || grt t (ns.drop j))) ∧ Hid (smN 0 ns = acc + smN j (ns.drop j))) (fun _ _ v11 => t - (intOf v11).toNat)
        case atStart => exact ⟨0, 0, g, Nat.zero_le _, by omega, by omega, rfl, rfl, rfl, by show _ = _; rw [List.drop_zero], by show _ = _; rw [List.drop_zero, Nat.zero_add]⟩
        case round =>
          obtain ⟨j, acc, g', hj, hac, hj4, rfl, rfl, rfl, HL, HA⟩ := hrel
          by_cases hjt : j < t
          · have hck := HCN.out j hjt
            have hxb := HNB.out j hjt
            have HMO := hid (fun h => step_more (t := t) (ns := ns) (j := j) h)
            have HLS := hid (fun h => step_last (t := t) (ns := ns) (j := j) h)
            rw [HNL.out] at HMO HLS
            obtain ⟨x, hx⟩ : ∃ x, ns[j]?.getD 0 = x := ⟨_, rfl⟩
            rw [hx] at hck hxb HMO HLS
            clear hx HNB HCN HSM HP2
            by_cases hlast : j + 1 < t
            · obtain ⟨hs1, hs2⟩ := HMO.out hlast
              have HS1 := hid hs1
              have HS2 := hid hs2
              have hlz : (j : Int) + 1 < (t : Int) := by omega
              obtain ⟨f, hf⟩ : ∃ f, decide (255 < x) = f := ⟨_, rfl⟩
              rw [hf] at HS2
              have hf2 : decide ((255 : Int) < (x : Int)) = f := by rw [← hf]; exact decide_eq_decide.2 ⟨fun h => by omega, fun h => by omega⟩
              clear hs1 hs2 HMO HLS
              obtain rfl | rfl | rfl : j = 0 ∨ j = 1 ∨ j = 2 := by omega
              · obtain rfl : acc = 0 := by omega
                have e256 : (256 : Nat) ^ (3 - 0) = 16777216 := by decide
                have hA2 : Hid (smN 0 ns = (x * 16777216) + smN 1 (ns.drop 1)) := by show _ = _; rw [HA.out, HS1.out, e256]; exact Nat.zero_add _
                clear hac e256
                cases g' with
                | true =>
                  have hL2 : Hid ((g || grt t ns) = (true || grt t (ns.drop 1))) := by show _ = _; rw [HL.out, HS2.out]; rfl
                  clear HL HA HS1 HS2
                  go_wp2
                  exact ⟨⟨1, x * 16777216, true, by omega, by omega, by omega, rfl, by go_num, rfl, hL2, hA2⟩, by simp [intOf]; omega⟩
                | false =>
                  have hL2 : Hid ((g || grt t ns) = (f || grt t (ns.drop 1))) := by show _ = _; rw [HL.out, HS2.out]; rfl
                  clear HL HA HS1 HS2
                  go_wp2
                  exact ⟨⟨1, x * 16777216, f, by omega, by omega, by omega, rfl, by go_num, rfl, hL2, hA2⟩, by simp [intOf]; omega⟩
              · have e256 : (256 : Nat) ^ (3 - 1) = 65536 := by decide
                have hA2 : Hid (smN 0 ns = (acc + x * 65536) + smN 2 (ns.drop 2)) := by show _ = _; rw [HA.out, HS1.out, e256]; exact (Nat.add_assoc _ _ _).symm
                have hac2 : acc ≤ 72057594037927936 := by omega
                clear hac e256
                cases g' with
                | true =>
                  have hL2 : Hid ((g || grt t ns) = (true || grt t (ns.drop 2))) := by show _ = _; rw [HL.out, HS2.out]; rfl
                  clear HL HA HS1 HS2
                  go_wp2
                  exact ⟨⟨2, acc + x * 65536, true, by omega, by omega, by omega, rfl, by go_num, rfl, hL2, hA2⟩, by simp [intOf]; omega⟩
                | false =>
                  have hL2 : Hid ((g || grt t ns) = (f || grt t (ns.drop 2))) := by show _ = _; rw [HL.out, HS2.out]; rfl
                  clear HL HA HS1 HS2
                  go_wp2
                  exact ⟨⟨2, acc + x * 65536, f, by omega, by omega, by omega, rfl, by go_num, rfl, hL2, hA2⟩, by simp [intOf]; omega⟩
              · have e256 : (256 : Nat) ^ (3 - 2) = 256 := by decide
                have hA2 : Hid (smN 0 ns = (acc + x * 256) + smN 3 (ns.drop 3)) := by show _ = _; rw [HA.out, HS1.out, e256]; exact (Nat.add_assoc _ _ _).symm
                have hac2 : acc ≤ 144115188075855872 := by omega
                clear hac e256
                cases g' with
                | true =>
                  have hL2 : Hid ((g || grt t ns) = (true || grt t (ns.drop 3))) := by show _ = _; rw [HL.out, HS2.out]; rfl
                  clear HL HA HS1 HS2
                  go_wp2
                  exact ⟨⟨3, acc + x * 256, true, by omega, by omega, by omega, rfl, by go_num, rfl, hL2, hA2⟩, by simp [intOf]; omega⟩
                | false =>
                  have hL2 : Hid ((g || grt t ns) = (f || grt t (ns.drop 3))) := by show _ = _; rw [HL.out, HS2.out]; rfl
                  clear HL HA HS1 HS2
                  go_wp2
                  exact ⟨⟨3, acc + x * 256, f, by omega, by omega, by omega, rfl, by go_num, rfl, hL2, hA2⟩, by simp [intOf]; omega⟩
            · obtain ⟨hs1, hs2⟩ := HLS.out (by omega)
              have HEN : Hid (ns.drop t = []) := List.drop_eq_nil_of_le (by rw [HNL.out]; exact Nat.le_refl _)
              have hA2 : Hid (smN 0 ns = (acc + x) + smN t (ns.drop t)) := by show _ = _; rw [HA.out, hs1, HEN.out]; rfl
              have HS2 := hid hs2
              clear hs1 hs2 HMO HLS HA HNL
              obtain ⟨f, hf⟩ : ∃ f, decide (256 ^ (5 - t) ≤ x) = f := ⟨_, rfl⟩
              rw [hf] at HS2
              have hL2 : Hid ((g || grt t ns) = ((g' || f) || grt t (ns.drop t))) := by
                show _ = _
                rw [HL.out, HS2.out, HEN.out]
                cases g' <;> cases f <;> rfl
              clear HL HS2 HEN
              obtain ⟨rfl, rfl⟩ | ⟨rfl, rfl⟩ | ⟨rfl, rfl⟩ | ⟨rfl, rfl⟩ : (j = 0 ∧ t = 1) ∨ (j = 1 ∧ t = 2) ∨ (j = 2 ∧ t = 3) ∨ (j = 3 ∧ t = 4) := by omega
              · obtain rfl : acc = 0 := by omega
                rw [Nat.zero_add] at hA2
                clear hac
                have hf2 : decide ((4294967296 : Int) ≤ (x : Int)) = f := by rw [← hf]; exact decide_eq_decide.2 ⟨fun h => by omega, fun h => by omega⟩
                clear hf
                cases g' with
                | true =>
                  go_wp2
                  exact ⟨⟨1, x, true, by omega, by omega, by omega, rfl, by go_num, rfl, hL2, hA2⟩, by simp [intOf]⟩
                | false =>
                  go_wp2
                  exact ⟨⟨1, x, f, by omega, by omega, by omega, rfl, by go_num, rfl, hL2, hA2⟩, by simp [intOf]⟩
              · have hac2 : acc ≤ 72057594037927936 := by omega
                clear hac
                have hf2 : decide ((16777216 : Int) ≤ (x : Int)) = f := by rw [← hf]; exact decide_eq_decide.2 ⟨fun h => by omega, fun h => by omega⟩
                clear hf
                cases g' with
                | true =>
                  go_wp2
                  exact ⟨⟨2, acc + x, true, by omega, by omega, by omega, rfl, by go_num, rfl, hL2, hA2⟩, by simp [intOf]⟩
                | false =>
                  go_wp2
                  exact ⟨⟨2, acc + x, f, by omega, by omega, by omega, rfl, by go_num, rfl, hL2, hA2⟩, by simp [intOf]⟩
              · have hac2 : acc ≤ 144115188075855872 := by omega
                clear hac
                have hf2 : decide ((65536 : Int) ≤ (x : Int)) = f := by rw [← hf]; exact decide_eq_decide.2 ⟨fun h => by omega, fun h => by omega⟩
                clear hf
                cases g' with
                | true =>
                  go_wp2
                  exact ⟨⟨3, acc + x, true, by omega, by omega, by omega, rfl, by go_num, rfl, hL2, hA2⟩, by simp [intOf]⟩
                | false =>
                  go_wp2
                  exact ⟨⟨3, acc + x, f, by omega, by omega, by omega, rfl, by go_num, rfl, hL2, hA2⟩, by simp [intOf]⟩
              · have hac2 : acc ≤ 216172782113783808 := by omega
                clear hac
                have hf2 : decide ((256 : Int) ≤ (x : Int)) = f := by rw [← hf]; exact decide_eq_decide.2 ⟨fun h => by omega, fun h => by omega⟩
                clear hf
                cases g' with
                | true =>
                  go_wp2
                  exact ⟨⟨4, acc + x, true, by omega, by omega, by omega, rfl, by go_num, rfl, hL2, hA2⟩, by simp [intOf]⟩
                | false =>
                  go_wp2
                  exact ⟨⟨4, acc + x, f, by omega, by omega, by omega, rfl, by go_num, rfl, hL2, hA2⟩, by simp [intOf]⟩
          · obtain rfl : j = t := by omega
            have HEN : Hid (ns.drop j = []) := List.drop_eq_nil_of_le (by rw [HNL.out]; exact Nat.le_refl _)
            have HG2 : Hid ((g || grt j ns) = g') := by show _ = _; rw [HL.out, HEN.out]; cases g' <;> rfl
            have HA2 : Hid (smN 0 ns = acc) := by show _ = _; rw [HA.out, HEN.out]; rfl
            have HFS : Hid (g' = false → acc < 4294967296) := fun h => by
              rw [← HA2.out]
              refine HSM.out ?_
              have := HG2.out
              rw [h] at this
              exact (Bool.or_eq_false_iff.1 this).2
            clear HL HA HEN HNB HCN HNL HSM
            cases g' with
            | true =>
              have HP3 := hid (HP2.out.trans (if_pos HG2.out))
              clear HP2 HG2 HFS hac
              go_wp2
              go_ret2
              exact HRT.out _ _ _ _ HP3.out rfl HBW.out
            | false =>
              have hlt := HFS.out rfl
              have HP3 := hid (HP2.out.trans (if_neg (by rw [HG2.out]; simp)))
              rw [HA2.out] at HP3
              clear HP2 HG2 HFS HA2 hac
              go_wp2
              go_ret2
              exact HRT.out _ _ _ _ HP3.out rfl HBW.out
end Go.Proofs.YtklplalfcpigcaaDoor.F
