/- The statement SkelLevels: a longer name never mixes scripts less, and its scripts are those of its parts; for every input, the listed variable, the names of the scripts, as the text of the program lays it (the card ties it): the call returns true and its arguments read behind it as they read before. -/
import Derived.Test.YtpkegjbmnilmdaaDoorZM4
import Derived.Test.YtpkegjbmnilmdaaDoorCards
import Derived.Test.YtpkegjbmnilmdaaDoorTie
import Derived.Test.YtpkegjbmnilmdaaDoorZM3
import Derived.BigQuiet
import Derived.Deep.QuietTactic
import Derived.WalkKit
import Derived.ShutString
import Derived.ChangeOld
import Derived.Below
import Derived.SevenTiedAt
/- SkelLevels: the walk. -/
namespace Go.Proofs.YtpkegjbmnilmdaaDoor.S
open Go.RowKit
set_option linter.unusedVariables false

theorem dec_two {s t : ByteArray} (h : U.val (U.bn s) = true) : U.dec (U.bn (s ++ t)) = U.dec (U.bn s) ++ U.dec (U.bn t) := by
  rw [U.bn_append]
  exact U.dec_app _ _ _ (Nat.le_refl _) (U.bn_bytes s) (U.bn_bytes t) h
/-- What is marked: those of T. -/
def arr (T : List Int) : List Value := (List.range 256).map (fun j : Nat => Value.bool (decide ((j : Int) ∈ T)))
theorem arr_len (T : List Int) : (arr T).length = 256 := by simp [arr]
theorem arr_at (T : List Int) (j : Nat) (hj : j < 256) : (arr T)[j]? = some (.bool (decide ((j : Int) ∈ T))) := by
  unfold arr
  rw [List.getElem?_map, List.getElem?_range hj]; rfl
theorem arr_set (T : List Int) (x : Nat) (hx : x < 256) : (arr T).set x (.bool true) = arr (T ++ [(x : Int)]) := by
  apply List.ext_getElem?
  intro j
  by_cases hj : j < 256
  · rw [List.getElem?_set, arr_at T j hj, arr_at _ j hj, arr_len]
    by_cases e : x = j
    · subst e; simp [hx]
    · have : ¬ (j : Int) = (x : Int) := by omega
      simp [e, this]
  · rw [List.getElem?_eq_none (by rw [List.length_set, arr_len]; omega), List.getElem?_eq_none (by rw [arr_len]; omega)]
theorem arr_same (T : List Int) {x : Int} (hx : x ∈ T) : arr (T ++ [x]) = arr T := by
  unfold arr
  apply List.map_congr_left
  intro j _
  congr 2
  rw [eq_iff_iff, List.mem_append]
  exact ⟨fun h => h.elim id (fun h => by simp at h; rw [h]; exact hx), .inl⟩
theorem cell_heap {W W' : World} {b : Nat} (h : W.heap[b]? = W'.heap[b]?) (j : Nat) : W.cell? ⟨b, j, none⟩ = W'.cell? ⟨b, j, none⟩ := by
  unfold World.cell?
  simp only [h]
theorem scs_at {l : List Int} {k : Nat} (h : k < (scs l).length) : 2 ≤ (scs l)[k]?.getD 0 ∧ (scs l)[k]?.getD 0 ≤ 11 := by
  rw [List.getElem?_eq_getElem h]
  exact scs_bd (List.getElem_mem h)
theorem index256 (g x : Nat) (hx : x < 256) (W : World) : (Instr.indexAt 37 (.pointer (some ⟨g, 0, none⟩)) (.int .u8 (x : Int))).run Tryd.prog W = .ok (.pointer (some ⟨g, x, none⟩)) W := by
  have hl : Tryd.prog.arrayLen 37 = 256 := by kernel_rfl
  have hs : (sizeOf (Tryd.prog.elem 37)).run Tryd.prog W = .ok 1 W := by kernel_rfl
  rw [run_indexAt_array W 37 ⟨g, 0, none⟩ .u8 (x : Int) (by kernel_rfl), hl, if_pos ⟨by omega, by omega⟩, hs]
  simp only [Result.andThen, Int.toNat_natCast, Nat.mul_one]
  rw [U.addr_add0]
set_option maxRecDepth 100000 in
set_option maxHeartbeats 8000000 in
theorem levels_walk (s t : ByteArray) (w : World) (hN : Nms w) (hs : s.size ≤ maxLen) (ht : t.size ≤ maxLen) :
    Calls Tryd.prog 6 #[.string s, .string t] w fun e W' => e = .returned (.bool true) ∧ Below w.heap.size w W' := by
  unfold maxLen at hs ht
  have HW : Hid (∀ W, Below w.heap.size w W → Calls Tryd.prog 8 #[] W fun e W' => e = .returned (.bool true) ∧ Below W.heap.size W W') := fun W hB => works_any W (hN.below hB (Nat.le_refl _))
  clear hN
  by_cases h1 : 600 < s.size
  · go_enter Tryd.func6, Tryd.ntmps6
    go_wp2_with (go_at_call 8; refine (HW.out _ (Below.refl _ _)).mono ?_; rintro e w1 ⟨rfl, B1⟩)
    go_ret
    exact ⟨rfl, B1⟩
  by_cases h2 : 600 < t.size
  · have h1z : (s.size : Int) ≤ 600 := by omega
    go_enter Tryd.func6, Tryd.ntmps6
    go_wp2_with (go_at_call 8; refine (HW.out _ (Below.refl _ _)).mono ?_; rintro e w1 ⟨rfl, B1⟩)
    go_ret
    exact ⟨rfl, B1⟩
  have h1z : (s.size : Int) ≤ 600 := by omega
  have h2z : (t.size : Int) ≤ 600 := by omega
  have HV := hid (fun W => U.refValid_any s (by omega) W)
  have HD2 := hid (fun h => dec_two (s := s) (t := t) h)
  obtain ⟨V, hV⟩ : ∃ V, U.val (U.bn s) = V := ⟨_, rfl⟩
  rw [hV] at HV HD2
  clear hV
  cases V with
  | false =>
    go_enter Tryd.func6, Tryd.ntmps6
    go_wp2_with fail
    refine (HV.out _).mono ?_
    rintro e w1 ⟨rfl, B1⟩
    have HB1 := hid B1
    clear B1
    go_wp2_with (go_at_call 8; refine (HW.out _ HB1.out).mono ?_; rintro e w2 ⟨rfl, B2⟩)
    go_ret
    exact ⟨rfl, HB1.out.trans (B2.mono HB1.out.size)⟩
  | true =>
    have hd := HD2.out rfl
    have hsz : (s ++ t).size ≤ 10000 := by rw [ByteArray.size_append]; omega
    have HL := hid (fun W => level_any (s ++ t) W hsz)
    have HL1 := hid (fun W => level_any s W (by omega))
    have HL2 := hid (fun W => level_any t W (by omega))
    have HS := hid (fun W => scripts_any (s ++ t) W hsz)
    have HS1 := hid (fun W => scripts_any s W (by omega))
    have HS2 := hid (fun W => scripts_any t W (by omega))
    rw [hd] at HL HS
    clear hd hsz HD2
    obtain ⟨A, hA⟩ : ∃ A, U.dec (U.bn s) = A := ⟨_, rfl⟩
    obtain ⟨B, hB⟩ : ∃ B, U.dec (U.bn t) = B := ⟨_, rfl⟩
    rw [hA] at HL HS HL1 HS1
    rw [hB] at HL HS HL2 HS2
    clear hA hB
    have u1 : lev (asc A) (scs A) ≤ lev (asc (A ++ B)) (scs (A ++ B)) := lev_up (scs_left A B) (fun h => by rw [asc_append] at h; simp at h; exact h.1)
    have u2 : lev (asc B) (scs B) ≤ lev (asc (A ++ B)) (scs (A ++ B)) := lev_up (scs_right A B) (fun h => by rw [asc_append] at h; simp at h; exact h.2)
    obtain ⟨x, hx⟩ : ∃ x, lev (asc (A ++ B)) (scs (A ++ B)) = x := ⟨_, rfl⟩
    obtain ⟨y, hy⟩ : ∃ y, lev (asc A) (scs A) = y := ⟨_, rfl⟩
    obtain ⟨z, hz⟩ : ∃ z, lev (asc B) (scs B) = z := ⟨_, rfl⟩
    rw [hx, hy] at u1
    rw [hx, hz] at u2
    rw [hx] at HL
    rw [hy] at HL1
    rw [hz] at HL2
    clear hx hy hz
    have hmax : ¬ x < (if z > y then z else y) := by split <;> omega
    go_enter Tryd.func6, Tryd.ntmps6
    go_wp2_with fail
    refine (HV.out _).mono ?_
    rintro e w1 ⟨rfl, B1⟩
    have HB1 := hid B1
    clear B1 HV
    go_wp2_with fail
    refine (HL.out _).mono ?_
    rintro e w2 ⟨rfl, B2⟩
    have HB2 := hid (HB1.out.trans (B2.mono HB1.out.size))
    clear B2 HB1 HL
    go_wp2_with fail
    refine (HL1.out _).mono ?_
    rintro e w3 ⟨rfl, B3⟩
    have HB3 := hid (HB2.out.trans (B3.mono HB2.out.size))
    clear B3 HB2 HL1
    go_wp2_with fail
    refine (HL2.out _).mono ?_
    rintro e w4 ⟨rfl, B4⟩
    have HB4 := hid (HB3.out.trans (B4.mono HB3.out.size))
    clear B4 HB3 HL2
    go_wp2_with fail
    obtain ⟨w5, hw5⟩ : ∃ w5, w4.alloc (.cells Tryd.zeroCells37 37) = w5 := ⟨_, rfl⟩
    have HZ : Hid (w5.ownsRow w4.heap.size 37 1 (.slice (some ⟨w4.heap.size, 0, none⟩) 256 256) 256 (arr [])) := by
      show World.ownsRow _ _ _ _ _ _ _
      rw [← hw5]
      exact ⟨by rw [arr_len], .inr ⟨w4.heap.size, 256, Tryd.zeroCells37, rfl, Nat.le_refl _, heap_alloc_new w4 _, Nat.le_refl _, by decide, by kernel_rfl, by kernel_rfl⟩⟩
    have hs5 : w5.heap.size = w4.heap.size + 1 := by rw [← hw5]; simp
    have HB5 : Hid (Below w.heap.size w w5) := by show Below _ _ _; rw [← hw5]; exact HB4.out.alloc HB4.out.size _
    rw [hw5]
    clear hw5
    refine (HS1.out _).mono ?_
    rintro e w6 ⟨⟨v6, rfl, r6⟩, B6⟩
    obtain ⟨a6, c6, rfl⟩ := own_sh5 r6
    have HS6 := hid (src_own rfl r6)
    have HB6 := hid B6
    have hn1 := scs_len A
    have hn2 := scs_len B
    obtain ⟨P, hP⟩ : ∃ P, scs A = P := ⟨_, rfl⟩
    obtain ⟨R, hR⟩ : ∃ R, scs B = R := ⟨_, rfl⟩
    have HPR : Hid (scs A = P ∧ scs B = R) := ⟨hP, hR⟩
    have HS2' : Hid (∀ W, Calls Tryd.prog 10 #[.string t] W fun e W' => (∃ v, e = .returned v ∧ W'.ownsRow W.heap.size 5 1 v R.length (R.map (Value.int .u8))) ∧ Below W.heap.size W W') := by rw [← hR]; exact HS2.out
    rw [hP] at HS6 hn1 ⊢
    rw [hR] at hn2
    clear r6 B6 HS1 HS2 hP hR
    go_wp2_with (first
      | (at_builtin; have HS8' := HS8; refine wpList_append_us rfl _ _ rfl w5.heap.size _ P.length P rfl R8.out _ R rfl HS8.out (by omega) HB8.out.size ?_; intro v9 w9 r9 g9; have HB9 := hid (U.below_grow HB8.out HB8.out.size R8.out g9); have R9 := hid r9; obtain ⟨a9, c9, rfl⟩ := own_sh5 R9.out; clear r9 g9)
      | (go_at_call 10; refine (HS2'.out _).mono ?_; rintro e w8 ⟨⟨v8, rfl, r8⟩, B8⟩; obtain ⟨a8, c8, rfl⟩ := own_sh5 r8; have HS8 := hid (src_own rfl r8); have R8 := hid (U.ownsRow_below R7.out B8 (Nat.le_refl _)); have HB8 := hid (HB7.out.trans (B8.mono HB7.out.size)); clear r8 B8)
      | (at_builtin; refine wpList_append_us rfl _ _ rfl w5.heap.size _ 0 [] rfl (World.ownsRow_nil _ _ _ _) _ P rfl HS6.out (by omega) HB6.out.size ?_; intro v7 w7 r7 g7; rw [Nat.zero_add, List.nil_append] at r7; have HB7 := hid (U.below_grow HB6.out HB6.out.size (show w6.ownsRow w5.heap.size 5 1 (.slice none 0 0) 0 [] from World.ownsRow_nil _ _ _ _) g7); have R7 := hid r7; obtain ⟨a7, c7, rfl⟩ := own_sh5 R7.out; clear r7 g7))
    obtain ⟨L, hL⟩ : ∃ L, P ++ R = L := ⟨_, rfl⟩
    have HPL : Hid (P ++ R = L) := hL
    have HML : Hid (P.length + R.length = L.length) := by show _ = _; rw [← hL, List.length_append]
    obtain ⟨m, hm⟩ : ∃ m, P.length + R.length = m := ⟨_, rfl⟩
    have hm20 : m ≤ 20 := by omega
    rw [hL, hm] at R9
    rw [hm] at HML ⊢
    have HLB : Hid (∀ k, k < m → 2 ≤ L[k]?.getD 0 ∧ L[k]?.getD 0 ≤ 11) := fun k hk => by
      have hk' : k < L.length := by rw [← HML.out]; exact hk
      have hmem : L[k] ∈ P ++ R := by rw [HPL.out]; exact List.getElem_mem hk'
      rw [List.getElem?_eq_getElem hk']
      rcases List.mem_append.1 hmem with h | h
      · rw [← HPR.out.1] at h; exact scs_bd h
      · rw [← HPR.out.2] at h; exact scs_bd h
    obtain ⟨a, c, he, hf⟩ := own_cells HML.out R9.out
    cases he
    have HF := hid hf
    have HS5 := hid hs5
    have hwb := HB4.out.size
    have HZ9 := hid (U.ownsRow_below HZ.out HB9.out (Nat.le_refl _))
    have HBW := hid (HB5.out.trans (HB9.out.mono HB5.out.size))
    have HCN : Hid (cnt L = (scs (A ++ B)).length) := by show _ = _; rw [← HPL.out, ← HPR.out.1, ← HPR.out.2]; exact cnt_scs A B
    have HIN : Hid (∀ y ∈ scs (A ++ B), y ∈ L) := fun y hy => by
      rw [← HPL.out, ← HPR.out.1, ← HPR.out.2]
      have h1 := scs_mem.1 hy
      rw [hasS_append, Bool.or_eq_true] at h1
      rcases h1.2 with h | h
      · exact List.mem_append.2 (.inl (scs_mem.2 ⟨h1.1, h⟩))
      · exact List.mem_append.2 (.inr (scs_mem.2 ⟨h1.1, h⟩))
    have HUP := hid (scs_up (A ++ B))
    have hn10 := scs_len (A ++ B)
    have HBD : Hid (∀ k, k < (scs (A ++ B)).length → 2 ≤ (scs (A ++ B))[k]?.getD 0 ∧ (scs (A ++ B))[k]?.getD 0 ≤ 11) := fun k hk => scs_at hk
    have HS' : Hid (∀ W, Calls Tryd.prog 10 #[.string (s ++ t)] W fun e W' => (∃ v, e = .returned v ∧ W'.ownsRow W.heap.size 5 1 v (scs (A ++ B)).length ((scs (A ++ B)).map (Value.int .u8))) ∧ Below W.heap.size W W') := HS.out
    obtain ⟨M, hM⟩ : ∃ M, scs (A ++ B) = M := ⟨_, rfl⟩
    rw [hM] at HCN HIN HUP hn10 HBD HS'
    clear hL hm hf HZ HB9 R9 HPR HPL HS HS6 HS8 HB6 HB7 HB8 R7 R8 HB4 HB5 hM hs5 HS2' hn1 hn2
    go_loopw [6, 8] (fun v6 v8 wr => ∃ (i c : Nat), i ≤ m ∧ v6 = .int .i64 c ∧ v8 = .int .i64 i ∧ Hid (c = cnt (L.take i)) ∧ Hid (wr.ownsRow w4.heap.size 37 1 (.slice (some ⟨w4.heap.size, 0, none⟩) 256 256) 256 (arr (L.take i))) ∧ Hid (∀ b, b ≠ w4.heap.size → wr.heap[b]? = w9.heap[b]?) ∧ Hid (Below w.heap.size w wr)) (fun _ v8 _ => m - (intOf v8).toNat)
    case atStart => exact ⟨0, 0, Nat.zero_le _, rfl, rfl, by show _ = _; rw [List.take_zero, cnt_nil], by show World.ownsRow _ _ _ _ _ _ _; rw [List.take_zero]; exact HZ9.out, (fun _ _ => rfl), HBW⟩
    case round =>
      obtain ⟨i, c, hi, rfl, rfl, HG, HR, HO, HB⟩ := hrel
      have hc10 : c ≤ 10 := by rw [HG.out]; exact List.length_filter_le _ nums
      by_cases hlt : i < m
      · obtain ⟨b, hb, rfl, hcb⟩ := HF.out (by omega)
        have hib := HLB.out i hlt
        have HTK : Hid (L.take (i + 1) = L.take i ++ [L[i]?.getD 0]) := take_one L i (by rw [← HML.out]; exact hlt)
        have hcw : wr.cell? ⟨b, i, none⟩ = some (.int .u8 (L[i]?.getD 0)) := (cell_heap (HO.out b (by have := HS5.out; omega)) i).trans (hcb i hlt)
        obtain ⟨x, hx⟩ : ∃ x : Nat, L[i]?.getD 0 = (x : Int) := ⟨(L[i]?.getD 0).toNat, by omega⟩
        rw [hx] at hib HTK hcw
        have hx1 : x ≤ 11 := by omega
        have hx2 : 2 ≤ x := by omega
        have hca : wr.cell? ⟨w4.heap.size, x, none⟩ = some (.bool (decide ((x : Int) ∈ L.take i))) := by rw [HR.out.cellAt x (by omega), arr_at _ x (by omega)]
        have hfz := HR.out.frozenAt x
        have HNU : Hid ((x : Int) ∈ nums) := by
          show _ ∈ nums
          have : x = 2 ∨ x = 3 ∨ x = 4 ∨ x = 5 ∨ x = 6 ∨ x = 7 ∨ x = 8 ∨ x = 9 ∨ x = 10 ∨ x = 11 := by omega
          unfold nums
          rcases this with rfl | rfl | rfl | rfl | rfl | rfl | rfl | rfl | rfl | rfl <;> decide
        have hxz : (x : Int) < 256 := by omega
        clear hx hib hcb
        by_cases hin : (x : Int) ∈ L.take i
        · rw [decide_eq_true hin] at hca
          have HI := hid hin
          clear hin HNU
          go_wp2
          go_roundw
          case rel => exact ⟨i + 1, c, by omega, rfl, by go_num, by show _ = _; rw [HTK.out, cnt_same HI.out]; exact HG.out, by show World.ownsRow _ _ _ _ _ _ _; rw [HTK.out, arr_same _ HI.out]; exact HR.out, HO, HB⟩
          case measure => simp [intOf]; omega
        · rw [decide_eq_false hin] at hca
          have HI := hid hin
          have HST := hid (HR.out.stored x (.bool true)).1
          clear hin
          go_wp2
          go_roundw
          case rel =>
            refine ⟨i + 1, c + 1, by omega, by go_num, by go_num, by show _ = _; rw [HTK.out, cnt_more HNU.out HI.out, ← HG.out], ?_, ?_, HB.out.setCell (p := ⟨w4.heap.size, x, none⟩) hwb _⟩
            · show World.ownsRow _ _ _ _ _ _ _
              rw [HTK.out, ← arr_set _ x (by omega)]
              exact HST.out
            · exact fun b' hb' => (heap_setCell_other wr ⟨w4.heap.size, x, none⟩ b' _ hb').trans (HO.out b' hb')
          case measure => simp [intOf]; omega
      · have ht : L.take i = L := List.take_of_length_le (by rw [← HML.out]; omega)
        rw [ht] at HG HR
        have HGC := hid (HG.out.trans HCN.out)
        clear HG HO HLB HF HML HZ9 HBW ht HCN
        go_wp2_with fail
        refine (HS'.out _).mono ?_
        rintro e w10 ⟨⟨v10, rfl, r10⟩, B10⟩
        obtain ⟨n, hn⟩ : ∃ n, M.length = n := ⟨_, rfl⟩
        have HN := hid hn
        rw [hn] at r10 hn10 HGC HBD
        obtain ⟨a, c1, rfl, hf⟩ := own_cells hn.symm r10
        have HF := hid hf
        have HR10 := hid (U.ownsRow_below HR.out B10 (Nat.le_refl _))
        have HB10 := hid (HB.out.trans (B10.mono HB.out.size))
        obtain rfl := HGC.out
        clear r10 hf hn HGC B10 HR HB HS'
        go_wp2_with fail
        go_loopw [10] (fun v10 wq => ∃ (j : Nat), j ≤ c ∧ v10 = .int .i64 j ∧ Hid (∃ k, wq = w10.drewN k)) (fun v10 _ => c - (intOf v10).toNat)
        case atStart => exact ⟨0, Nat.zero_le _, rfl, ⟨0, rfl⟩⟩
        case round =>
          obtain ⟨j, hj, rfl, HD⟩ := hrel
          by_cases hjn : j < c
          · obtain ⟨kk, rfl⟩ := HD.out
            obtain ⟨b, hb, rfl, hcb⟩ := HF.out (by omega)
            have hMl : j < M.length := by rw [HN.out]; exact hjn
            have hib := HBD.out j hjn
            have hmem : M[j]?.getD 0 ∈ L := by rw [List.getElem?_eq_getElem hMl]; exact HIN.out _ (List.getElem_mem hMl)
            have hcj : w10.cell? ⟨b, j, none⟩ = some (.int .u8 (M[j]?.getD 0)) := hcb j hjn
            have HLS : Hid (∀ j', j = j' + 1 → M[j']?.getD 0 < M[j]?.getD 0) := fun j' e => by
              subst e
              have h1 : j' < M.length := by omega
              rw [List.getElem?_eq_getElem h1, List.getElem?_eq_getElem hMl]
              exact List.pairwise_iff_getElem.1 HUP.out j' (j' + 1) h1 hMl (by omega)
            obtain ⟨x, hx⟩ : ∃ x : Nat, M[j]?.getD 0 = (x : Int) := ⟨(M[j]?.getD 0).toNat, by omega⟩
            rw [hx] at hib hmem hcj HLS
            have hca : w10.cell? ⟨w4.heap.size, x, none⟩ = some (.bool true) := by
              have := HR10.out.cellAt x (by omega)
              rw [arr_at _ x (by omega), decide_eq_true hmem] at this
              exact this
            have hxz : (x : Int) < 256 := by omega
            have hix := index256 w4.heap.size x (by omega)
            have hjz : (j : Int) < (c : Int) := by omega
            by_cases hj0 : j = 0
            · subst hj0
              clear hx hib hmem hMl HLS hcb
              go_wp2
              go_quiet (fail)
              go_wp2
              go_roundw
              case rel => exact ⟨1, by omega, by go_num, ⟨_, rfl⟩⟩
              case measure => simp [intOf]; omega
            · obtain ⟨j', hj'⟩ : ∃ j', j = j' + 1 := ⟨j - 1, by omega⟩
              have hlp := HLS.out j' hj'
              have hcp : w10.cell? ⟨b, j', none⟩ = some (.int .u8 (M[j']?.getD 0)) := hcb j' (by omega)
              obtain ⟨p, hp⟩ : ∃ p, M[j']?.getD 0 = p := ⟨_, rfl⟩
              rw [hp] at hlp hcp
              have hz0 : (0 : Int) < (j : Int) := by omega
              have hz2 : 0 < j := by omega
              have hz3 : decide (0 < j) = true := decide_eq_true hz2
              have hjj : (j : Int) - 1 = (j' : Int) := by omega
              have hjw : IntKind.i64.wrap (j' : Int) = (j' : Int) := by simp [IntKind.wrap, IntKind.bits, IntKind.signed]; omega
              have hj1 : (j' : Int) < (c : Int) := by omega
              have hnp : ¬ (x : Int) ≤ p := by omega
              have hj12 : j < 12 := by omega
              clear hx hib hmem hMl HLS hp hcb hj' hj0
              go_wp2
              go_quiet (fail)
              go_wp2
              go_roundw
              case rel => exact ⟨j + 1, by omega, by go_num, ⟨_, rfl⟩⟩
              case measure => simp [intOf]; omega
          · obtain ⟨kk, rfl⟩ := HD.out
            have HBK : Hid (Below w.heap.size w (w10.drewN kk)) := D.below_drewN HB10.out kk
            obtain rfl : j = c := by omega
            go_wp2_with (go_at_call 8; refine (HW.out _ HBK.out).mono ?_; rintro e w11 ⟨rfl, B11⟩)
            go_ret
            exact ⟨rfl, HBK.out.trans (B11.mono HBK.out.size)⟩
end Go.Proofs.YtpkegjbmnilmdaaDoor.S
namespace Go.Proofs.YtpkegjbmnilmdaaDoor
open Go.ChangeShapes Go.WideShapes Go.ChangeAt Go.RowKit
open Go.ChangeMaps (open_string shut_string)
set_option linter.unusedVariables false

set_option maxRecDepth 100000 in
theorem skelLevels_lifted (os : Os) (started : os.Started) (H : Type) (enc : TypeId × Value → H) :
    ReturnsInHanded {} Tryd.checked os 6 .any (fun w args => (Rows.skelLevelsSpec.pre enc Tryd.prog Tryd.f6 [] false w args ∧ laidMetH Tryd.prog laid1 w) ∧ sizedMet enc Tryd.prog Tryd.f6 (OpenSpec.ofChange Rows.skelLevelsSpec) false w args)
      (Rows.skelLevelsSpec.post enc Tryd.prog Tryd.f6 false true false false) := by
  refine returnsInHanded_of_change_and (C := Tryd.checked) (X := fun w _ => laidMetH Tryd.prog laid1 w) (fun _ _ _ hh h => h.of_heap hh) own started (by kernel_rfl) Tryd.func6
    (ChangeSpec.witness_shaped (enc := enc) (C := Tryd.checked) (os := os) (X := fun w _ => laidMetH Tryd.prog laid1 w) false (World.doorLaid Tryd.prog 4000 os) #[.string ByteArray.empty, .string ByteArray.empty] 8 rfl (World.shaped_of_RefB (by kernel_rfl) (by kernel_rfl)) (by kernel_rfl) (by kernel_rfl) (by kernel_rfl) (door_met os _)) ?_
  intro W base args ds gs before hval0 hW _ _ hL _
  have hval : ∀ (j : Nat) t v, Tryd.f6.params[j]? = some t → args[j]? = some v → Value.okWide Tryd.prog W .any base t v := hval0
  have hW' := hW
  obtain ⟨p, q, hA0, hV, rfl, hfz, hnd⟩ := hW
  have hA : DataW.TrodAll enc Tryd.prog W 0 (fun _ => true) true Tryd.f6.params.toList args.toList ds p := hA0
  rw [Tryd.params6] at hA hval
  obtain ⟨v0, vs0, d0, ds0, p0, q0, hargs, rfl, rfl, h0, r0⟩ := trodAll_cons hA
  obtain ⟨v1, vs1, d1, ds1, p1, q1, rfl, rfl, rfl, h1, r1⟩ := trodAll_cons r0
  obtain ⟨rfl, rfl, rfl⟩ := trodAll_nil r1
  obtain rfl : args = #[v0, v1] := by cases args; simp_all
  obtain ⟨rfl, rfl⟩ := trodVars_none hV
  obtain ⟨a0, rfl, rfl, rfl, w0⟩ := open_string Tryd.underlying9 (hval 0 9 v0 rfl rfl) h0
  obtain ⟨a1, rfl, rfl, rfl, w1⟩ := open_string Tryd.underlying9 (hval 1 9 v1 rfl rfl) h1
  clear hA0 hval0
  refine (S.levels_walk a0 a1 W (of_laid hL) w0 w1).mono fun e W' ⟨he, bel⟩ => ?_
  subst he
  exact ⟨_, rfl, _, _, _, [], _, [], hW', trodAll_mk1 (shut_bool Tryd.underlying4 _), (trodAll_cons_mk (shut_string Tryd.underlying9 w0) (trodAll_cons_mk (shut_string Tryd.underlying9 w1) trodAll_mk0)), rfl, bel.frame _, fun h => by cases h⟩

theorem skelLevels_over : Rows.skelLevelsRow.holds Tryd.pinned (OpenSpec.ofChange Rows.skelLevelsSpec) :=
  OpenClaim.holds_of_wide 6 Tryd.f6 rfl rfl rfl rfl rfl rfl rfl ⟨rfl, rfl, rfl, rfl, rfl⟩ rfl rfl rfl rfl rfl (by kernel_rfl) Tryd.func6 (by kernel_rfl)
    (of_decide_eq_true (by kernel_rfl)) (by unfold Func.isWrapper; first | (rw [if_pos (by decide +kernel)]; kernel_rfl) | (rw [if_neg (by decide +kernel)]; exact ⟨rfl, rfl⟩))
    (fun os started H enc _ => skelLevels_lifted os started H enc)

/-- The statement: the tied card. -/
theorem skelLevels_holds : Rows.SkelLevelsCardSaid :=
  Claim7.holds_tied_plain_at .later [] [.data] true Rows.skelLevelsCard.stood.harness false
    skelLevels_over (fun _ h => by cases h) (by kernel_rfl) (fun _ h => by cases h) skelLevels_row_tie rfl ⟨rfl, rfl⟩ (by kernel_rfl) rfl
    (fun f fn hf hfn => by
      obtain rfl : f = 6 := Option.some.inj ((show Tryd.prog.funcNamed Rows.skelLevelsRow.func = some 6 by kernel_rfl).symm.trans hf) |>.symm
      obtain rfl : fn = Tryd.f6 := (Option.some.inj (Tryd.func6.symm.trans hfn)).symm
      exact ⟨by kernel_rfl, fun j t ht => by
        rw [Tryd.params6] at ht
        have hm : t ∈ [9, 9] := by simpa using Array.mem_of_getElem? ht
        have hall : ([9, 9].all fun u => !Tryd.prog.wantsStandIn u) = true := by kernel_rfl
        exact (show Tryd.prog.wantsStandIn t = false by simpa using List.all_eq_true.1 hall t hm)⟩)
    (by kernel_rfl)
#print axioms skelLevels_holds
end Go.Proofs.YtpkegjbmnilmdaaDoor
