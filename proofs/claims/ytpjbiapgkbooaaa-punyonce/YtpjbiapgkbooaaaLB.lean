/- PunyOnce's walk. -/
import Derived.Test.YtpjbiapgkbooaaaLA
namespace Go.Proofs.Ytpjbiapgkbooaaa
open Go.RowKit U
set_option linter.unusedVariables false

/-- Bytes in a block, none of them frozen. -/
structure Bs (w : World) (g : Nat) (X : List Int) : Prop where
  cell : ∀ j, j < X.length → w.cell? ⟨g, j, none⟩ = some (.int .u8 (X[j]?.getD 0))
  fro : ∀ j, j < X.length → w.frozen? ⟨g, j, none⟩ = false
theorem conv_cells (w : World) (g cap n : Nat) (X : List Int) (hn : X.length = n) (hb : Bytes X) (h : Bs w g X) : ∃ t : ByteArray, (convert 34 9 (.slice (some ⟨g, 0, none⟩) n cap)).run Try.prog w = .ok (.string t) w ∧ bn t = X := by
  refine ⟨⟨(X.map fun n => UInt8.ofNat n.toNat).toArray⟩, ?_, by show List.map _ _ = X; exact bytes_back X hb⟩
  have := run_convert_bytes_back (P := Try.prog) w 34 9 5 ⟨g, 0, none⟩ cap (X.map fun n => UInt8.ofNat n.toNat) Try.underlying34 Try.underlying5 Try.underlying9 (by
    intro j hj
    have hj' : j < X.length := by simpa using hj
    have hbj := hb X[j] (List.getElem_mem hj')
    rw [addr_add0, h.cell j hj', List.getElem?_eq_getElem hj']
    simp only [Option.getD_some, List.getElem_map, UInt8.toNat_ofNat']
    congr 2
    omega)
  rw [List.length_map, hn] at this
  exact this
/-- The bytes from k on made small. -/
def lowK (L : List Int) (k : Nat) : List Int := L.take k ++ (L.drop k).map low
theorem lowK_len (L : List Int) (k : Nat) : (lowK L k).length = L.length := by
  unfold lowK; rw [List.length_append, List.length_map, List.length_take, List.length_drop]; omega
theorem lowK_get (L : List Int) (k j : Nat) (hj : j < L.length) : (lowK L k)[j]?.getD 0 = if j < k then L[j]?.getD 0 else low (L[j]?.getD 0) := by
  unfold lowK
  by_cases h : j < k
  · rw [if_pos h, List.getElem?_append_left (by rw [List.length_take]; omega), List.getElem?_take, if_pos h]
  · rw [if_neg h, List.getElem?_append_right (by rw [List.length_take]; omega), List.length_take, List.getElem?_map, List.getElem?_drop, show k + (j - min k L.length) = j by omega, List.getElem?_eq_getElem hj]; rfl
theorem lowK_bytes (L : List Int) (k : Nat) (h : Bytes L) : Bytes (lowK L k) := by
  intro b hb
  rcases List.mem_append.mp hb with hb | hb
  · exact h b (List.mem_of_mem_take hb)
  · obtain ⟨c, hc, rfl⟩ := List.mem_map.1 hb
    have := h c (List.mem_of_mem_drop hc)
    unfold low; split <;> omega
theorem lowK_all (L : List Int) (h : cutAt L = 0) : lowK L 0 = lower L := by unfold lowK lower; rw [if_pos h]; simp
theorem lowK_cut (L : List Int) (k : Nat) (h : cutAt L = k) (hk : k ≠ 0) : lowK L (k + 1) = lower L := by unfold lowK lower; rw [if_neg (by omega), h]
theorem Bs.stay {w : World} {g : Nat} {L : List Int} {k : Nat} (h : Bs w g (lowK L (k + 1))) (hk : k < L.length) (hl : low (L[k]?.getD 0) = L[k]?.getD 0) : Bs w g (lowK L k) := by
  have e : ∀ j, j < L.length → (lowK L k)[j]?.getD 0 = (lowK L (k + 1))[j]?.getD 0 := fun j hj => by
    rw [lowK_get L k j hj, lowK_get L (k + 1) j hj]
    by_cases h1 : j < k
    · rw [if_pos h1, if_pos (by omega)]
    · by_cases h2 : j = k
      · rw [if_neg h1, if_pos (by omega), h2, hl]
      · rw [if_neg h1, if_neg (by omega)]
  refine ⟨fun j hj => ?_, fun j hj => h.fro j (by rw [lowK_len] at *; exact hj)⟩
  rw [lowK_len] at hj
  rw [e j hj]; exact h.cell j (by rw [lowK_len]; exact hj)
theorem Bs.set {w : World} {g : Nat} {L : List Int} {k : Nat} (h : Bs w g (lowK L (k + 1))) (hk : k < L.length) : Bs (w.setCell ⟨g, k, none⟩ (.int .u8 (low (L[k]?.getD 0)))) g (lowK L k) := by
  refine ⟨fun j hj => ?_, fun j hj => ?_⟩
  · rw [lowK_len] at hj
    have hc := h.cell j (by rw [lowK_len]; exact hj)
    rw [lowK_get L k j hj]
    rw [lowK_get L (k + 1) j hj] at hc
    by_cases h2 : j = k
    · subst h2
      rw [if_neg (by omega)]
      have := World.cell?_setCells_in g [.int .u8 (low (L[j]?.getD 0))] j w (fun i hi => by
        have hi0 : i = 0 := by simp only [List.length_cons, List.length_nil] at hi; omega
        rw [hi0, Nat.add_zero, hc]; rfl) 0 (by simp)
      exact this
    · have ho := World.cell?_setCells_out g [.int .u8 (low (L[k]?.getD 0))] k w ⟨g, j, none⟩ (fun _ _ => by show j < k ∨ k + 1 ≤ j; omega)
      change (w.setCell ⟨g, k, none⟩ (.int .u8 (low (L[k]?.getD 0)))).cell? ⟨g, j, none⟩ = _ at ho
      rw [ho, hc]
      by_cases h1 : j < k
      · rw [if_pos h1, if_pos (by omega)]
      · rw [if_neg h1, if_neg (by omega)]
  · rw [lowK_len] at hj
    have := h.fro j (by rw [lowK_len]; exact hj)
    have hf := World.frozen?_setCells g [.int .u8 (low (L[k]?.getD 0))] k w ⟨g, j, none⟩
    exact hf.trans this
theorem low_cap (c : Int) (h : 65 ≤ c ∧ c ≤ 90) : low c = c + 32 := by unfold low; rw [if_pos h]
theorem low_not (c : Int) (h : ¬ (65 ≤ c ∧ c ≤ 90)) : low c = c := by unfold low; rw [if_neg h]
theorem bytes_new (s : ByteArray) (w : World) (C : Nat) (fr : Nat × Nat) (hfr : s.size ≤ fr.1) : Bs (w.alloc (.cells (bytesRow s C) 5 fr)) w.heap.size (lowK (bn s) (bn s).length) := by
  have e : lowK (bn s) (bn s).length = bn s := by unfold lowK; simp
  rw [e]
  have hb : (w.alloc (.cells (bytesRow s C) 5 fr)).heap[w.heap.size]? = some (.cells (bytesRow s C) 5 fr) := heap_alloc_new w _
  generalize w.alloc (.cells (bytesRow s C) 5 fr) = W at hb ⊢
  generalize w.heap.size = g at hb ⊢
  refine ⟨fun j hj => ?_, fun j hj => ?_⟩
  · rw [bn_length] at hj
    rw [bn_get s j hj]
    have : (bytesRow s C)[j]? = some (.int .u8 (s[j].toNat : Int)) := by
      unfold bytesRow
      rw [Array.getElem?_append_left (by simpa using hj), Array.getElem?_map, Array.getElem?_eq_getElem (by simpa using hj)]
      rfl
    simp [World.cell?, hb, this]
  · rw [bn_length] at hj
    obtain ⟨lo, hi⟩ := fr
    simp [World.frozen?, hb]
    simp at hfr
    omega

theorem Bs.below {w w' : World} {g : Nat} {X : List Int} (h : Bs w g X) (hb : Below w.heap.size w w') : Bs w' g X := by
  refine ⟨fun j hj => (hb.cell (p := ⟨g, j, none⟩) (lt_of_cell (h.cell j hj))).trans (h.cell j hj), fun j hj => ?_⟩
  have hlt : g < w.heap.size := lt_of_cell (h.cell j hj)
  have e := hb.block g hlt
  have := h.fro j hj
  unfold World.frozen? at this ⊢
  rw [show (⟨g, j, none⟩ : Addr).block = g from rfl] at this ⊢
  rw [e]; exact this
theorem lower_bytes (L : List Int) (h : Bytes L) : Bytes (lower L) := by
  unfold lower
  split
  · have := lowK_bytes L 0 h
    simpa [lowK] using this
  · exact lowK_bytes L _ h
theorem cut_none (L : List Int) (h : ∀ j, 0 ≤ j → j < L.length → j ≠ 0 → L[j]?.getD 0 ≠ 45) : cutAt L = 0 := by
  by_cases h0 : L.length = 0
  · unfold cutAt; rw [h0]; rfl
  · unfold cutAt
    rw [cutK_skip L 1 (fun k h1 h2 => h k (Nat.zero_le _) h2 (by omega)) _ (by omega) (Nat.le_refl _), cutK]
    split <;> rfl
theorem cut_at (L : List Int) (k : Nat) (hk : k < L.length) (hc : L[k]?.getD 0 = 45) (h : ∀ j, k + 1 ≤ j → j < L.length → j ≠ 0 → L[j]?.getD 0 ≠ 45) : cutAt L = k := by
  unfold cutAt
  rw [cutK_skip L (k + 1) (fun j h1 h2 => h j h1 h2 (by omega)) _ (by omega) (Nat.le_refl _), cutK, if_pos hc]

set_option maxRecDepth 100000 in
set_option maxHeartbeats 8000000 in
theorem once_walk (s : ByteArray) (w : World) (hs : s.size ≤ maxLen) :
    Calls Try.prog 6 #[.string s] w fun e w' => e = .returned (.bool true) ∧ Below w.heap.size w w' := by
  unfold maxLen at hs
  go_enter Try.func6, Try.ntmps6
  by_cases h1 : 1024 < s.size
  · go_wp2_with (go_at_call 8; refine (works_any _).mono ?_; rintro e w1 ⟨rfl, B1⟩)
    go_ret
    exact ⟨rfl, B1⟩
  · go_wp2_with fail
    refine (pdecode_any s w).mono ?_
    rintro e w1 ⟨⟨v1, r, rfl, hD⟩, B1⟩
    have HB1 := hid B1
    rcases hD with ⟨_, rfl, rfl⟩ | ⟨_, _, rfl, rfl⟩ | ⟨q1, q2, pts, q3, rfl, R1⟩
    · go_wp2_with (go_at_call 8; refine (works_any _).mono ?_; rintro e w3 ⟨rfl, B3⟩)
      go_ret
      exact ⟨rfl, HB1.out.trans (B3.mono HB1.out.size)⟩
    · go_wp2_with (go_at_call 8; refine (works_any _).mono ?_; rintro e w3 ⟨rfl, B3⟩)
      go_ret
      exact ⟨rfl, HB1.out.trans (B3.mono HB1.out.size)⟩
    · obtain ⟨a1, c1, rfl⟩ := own_sh21 R1
      obtain ⟨E1, E2, E3⟩ := enc_dec q3 q2 (bn_bytes s) q1
      have HE := hid E1
      have HPS := hid E2
      have HPL := hid E3
      have HL := hid q1
      have HI := hid (IntsAt.own rfl R1)
      have HBy := hid (lower_bytes (bn s) (bn_bytes s))
      have hcb := run_bytes_of_string (P := Try.prog) w1 9 34 5 s Try.underlying9 Try.underlying34 Try.underlying5
      obtain ⟨G, hG⟩ : ∃ G, grownCap w1 s.size 0 5 = G := ⟨_, rfl⟩
      rw [hG] at hcb
      have BS0 := hid (bytes_new s w1 G ((bytesRow s G).size, (bytesRow s G).size + 1) (by unfold bytesRow; simp))
      have b2 : Below w1.heap.size w1 (w1.drew.alloc (.cells (bytesRow s G) 5 ((bytesRow s G).size, (bytesRow s G).size + 1))) := (Below.refl _ w1).drew.alloc (Nat.le_refl _) _
      have BS1 : Hid (Bs (w1.drew.alloc (.cells (bytesRow s G) 5 ((bytesRow s G).size, (bytesRow s G).size + 1))) w1.heap.size (lowK (bn s) s.size)) := by
        have := BS0.out
        rw [bn_length] at this
        exact ⟨this.cell, this.fro⟩
      obtain ⟨W2, hW2⟩ : ∃ W2, w1.drew.alloc (.cells (bytesRow s G) 5 ((bytesRow s G).size, (bytesRow s G).size + 1)) = W2 := ⟨_, rfl⟩
      rw [hW2] at hcb b2 BS1
      have HB2 := hid b2
      have hpl : pts.length ≤ 63 := E3
      clear hW2 hG BS0 b2 q1 q2 q3 E1 E2 E3 R1 B1
      go_wp2_with fail
      go_loopw [6] (fun vi wr => ∃ k : Nat, k ≤ s.size ∧ vi = .int .i64 ((k : Int) - 1) ∧ Hid (Bs wr w1.heap.size (lowK (bn s) k)) ∧ Hid (∀ j, k ≤ j → j < (bn s).length → j ≠ 0 → (bn s)[j]?.getD 0 ≠ 45) ∧ Hid (Below w1.heap.size w1 wr))
        (fun vi _ => ((intOf vi) + 1).toNat)
      case atStart => exact ⟨s.size, Nat.le_refl _, by first | rfl | go_num | (congr 1; omega), BS1, (fun j h1 h2 => by rw [bn_length] at h2; omega), HB2⟩
      case round =>
        obtain ⟨k, hk, rfl, BS, HC, HB⟩ := hrel
        by_cases k0 : k = 0
        · subst k0
          have hX : lowK (bn s) (0) = lower (bn s) := lowK_all _ (cut_none _ HC.out)
          have BL := BS.out
          rw [hX] at BL
          have BLH := hid BL
          have J := hid (IntsAt.below HB.out (Nat.le_refl _) HI.out)
          clear BL hX BS
          go_wp2_with fail
          refine (pencode_any _ pts (by omega) _ J.out).mono ?_
          rintro e w4 ⟨⟨t, r, rfl, hE⟩, B4⟩
          obtain ⟨q1, rfl⟩ := hE.ok HPL.out HPS.out HE.out (by rw [lower_len]; exact HL.out)
          have b4 : Below w1.heap.size w1 w4 := HB.out.trans (B4.mono HB.out.size)
          obtain ⟨T, hcv, hT⟩ := conv_cells w4 w1.heap.size G s.size (lower (bn s)) (by rw [lower_len, bn_length]) HBy.out (BLH.out.below B4)
          obtain rfl : T = t := bn_inj (hT.trans q1.symm)
          have B4' := hid b4
          clear hE q1 hT b4 B4
          go_wp2_with (go_at_call 8; refine (works_any _).mono ?_; rintro e w5 ⟨rfl, B5⟩)
          go_ret
          exact ⟨rfl, (HB1.out.trans (B4'.out.mono HB1.out.size)).trans (B5.mono (Nat.le_trans HB1.out.size B4'.out.size))⟩
        · obtain ⟨j, rfl⟩ : ∃ j, k = j + 1 := ⟨k - 1, by omega⟩
          have hj : j < s.size := by omega
          have e1 : ((j + 1 : Nat) : Int) - 1 = (j : Int) := by omega
          rw [e1]
          clear e1
          have hlj : j < (bn s).length := by rw [bn_length]; exact hj
          have hc := BS.out.cell j (by rw [lowK_len]; exact hlj)
          have hf := BS.out.fro j (by rw [lowK_len]; exact hlj)
          rw [lowK_get _ _ _ hlj, if_pos (by omega)] at hc
          have hby := bn_bytes s ((bn s)[j]?.getD 0) (by rw [List.getElem?_eq_getElem hlj]; exact List.getElem_mem _)
          have HST := hid (fun h => BS.out.stay hlj h)
          have HSE := hid (BS.out.set hlj)
          have HCA := hid (fun h => cut_at (bn s) j hlj h HC.out)
          have HCN : Hid (¬ ((bn s)[j]?.getD 0 = 45 ∧ j ≠ 0) → ∀ i, j ≤ i → i < (bn s).length → i ≠ 0 → (bn s)[i]?.getD 0 ≠ 45) := by
            intro h i h1 h2 h3
            by_cases e : i = j
            · rw [e]; exact fun e2 => h ⟨e2, by omega⟩
            · exact HC.out i (by omega) h2 h3
          obtain ⟨c, hcc⟩ : ∃ c, (bn s)[j]?.getD 0 = c := ⟨_, rfl⟩
          rw [hcc] at hc hby HST HSE HCA HCN
          clear hcc hlj
          by_cases hst : c = 45 ∧ j ≠ 0
          · obtain ⟨rfl, hj0⟩ := hst
            have hjz : ¬ ((j : Int) = 0) := by omega
            have hX : lowK (bn s) (j + 1) = lower (bn s) := lowK_cut _ j (HCA.out rfl) hj0
            have BL := BS.out
            rw [hX] at BL
            have BLH := hid BL
            have J := hid (IntsAt.below HB.out (Nat.le_refl _) HI.out)
            clear BL hX BS
            go_wp2_with fail
            refine (pencode_any _ pts (by omega) _ J.out).mono ?_
            rintro e w4 ⟨⟨t, r, rfl, hE⟩, B4⟩
            obtain ⟨q1, rfl⟩ := hE.ok HPL.out HPS.out HE.out (by rw [lower_len]; exact HL.out)
            have b4 : Below w1.heap.size w1 w4 := HB.out.trans (B4.mono HB.out.size)
            obtain ⟨T, hcv, hT⟩ := conv_cells w4 w1.heap.size G s.size (lower (bn s)) (by rw [lower_len, bn_length]) HBy.out (BLH.out.below B4)
            obtain rfl : T = t := bn_inj (hT.trans q1.symm)
            have B4' := hid b4
            clear hE q1 hT b4 B4
            go_wp2_with (go_at_call 8; refine (works_any _).mono ?_; rintro e w5 ⟨rfl, B5⟩)
            go_ret
            exact ⟨rfl, (HB1.out.trans (B4'.out.mono HB1.out.size)).trans (B5.mono (Nat.le_trans HB1.out.size B4'.out.size))⟩
          · have hno : c ≠ 45 ∨ j = 0 := by omega
            have HN := hid (HCN.out hst)
            by_cases hcap : 65 ≤ c ∧ c ≤ 90
            · have elow := low_cap c hcap
              rw [elow] at HSE
              have hc45 : ¬ (c = 45) := by omega
              go_wp2
              go_roundw
              case rel => exact ⟨j, by omega, rfl, HSE, HN, HB.out.setCell (p := ⟨w1.heap.size, j, none⟩) (Nat.le_refl _) _⟩
              case measure => simp [intOf]; try omega
            · have elow := HST.out (low_not c hcap)
              have ELOW := hid elow
              clear elow
              by_cases hc45 : c = 45
              · obtain rfl : j = 0 := by omega
                subst hc45
                go_wp2
                go_roundw
                case rel => exact ⟨0, by omega, rfl, ELOW, HN, HB⟩
                case measure => simp [intOf]
              · by_cases h65 : c < 65
                · go_wp2
                  go_roundw
                  case rel => exact ⟨j, by omega, rfl, ELOW, HN, HB⟩
                  case measure => simp [intOf]; try omega
                · have h90 : 90 < c := by omega
                  go_wp2
                  go_roundw
                  case rel => exact ⟨j, by omega, rfl, ELOW, HN, HB⟩
                  case measure => simp [intOf]; try omega
end Go.Proofs.Ytpjbiapgkbooaaa
