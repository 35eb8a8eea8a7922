/- PunyPlain's walk. -/
import Derived.Test.YtpjbiapgkbooaaaWK
namespace Go.Proofs.Ytpjbiapgkbooaaa
open Go.RowKit U
set_option linter.unusedVariables false

theorem plain_all (l : List Int) (h : ∀ x ∈ l, x < 128) : plain l = l := by
  unfold plain
  rw [List.filter_eq_self]
  intro x hx
  simpa using h x hx
theorem enc_plain (l : List Int) (h : ∀ x ∈ l, x < 128) : Enc l (hd l) := by
  refine ⟨[], ?_, ?_⟩
  · rw [plain_all l h]; simp [tx]
  · rw [plain_all l h]; rfl
/-- The bytes of s, each below 128. -/
def m7 (s : ByteArray) (k : Nat) : List Int := ((bn s).take k).map fun c => c % 128
theorem m7_snoc (s : ByteArray) (k : Nat) (h : k < s.size) : m7 s (k + 1) = m7 s k ++ [(s[k].toNat : Int) % 128] := by
  unfold m7
  rw [bn_take s k h, List.map_append]; rfl
theorem m7_len (s : ByteArray) (k : Nat) (h : k ≤ s.size) : (m7 s k).length = k := by
  unfold m7; rw [List.length_map, List.length_take, bn_length]; omega
theorem m7_bd (s : ByteArray) (k : Nat) : ∀ x ∈ m7 s k, 0 ≤ x ∧ x < 128 := by
  intro x hx
  obtain ⟨c, _, rfl⟩ := List.mem_map.1 hx
  omega

theorem own_sh21' {base n : Nat} {v : Value} {X : List Value} {W : World} (h : W.ownsRow base 21 1 v n X) : ∃ a cap, v = .slice a n cap := own_sh21 h
/-- What is written of any row is ASCII, or nothing. -/
theorem enc_end {l : List Int} {y : ByteArray} {f : Int} (h : EncR l y f) : (f = 0 ∧ y.size ≤ 63 ∧ ∀ k (hk : k < y.size), (y[k].toNat : Int) < 128) ∨ ((f = 4 ∨ f = 2) ∧ y = ⟨#[]⟩) := by
  rcases h with ⟨_, h1, h2⟩ | ⟨_, _, h1, h2⟩ | ⟨_, hs, T, hE, ⟨_, h1, h2⟩ | ⟨h1, h2, h3⟩⟩
  · exact .inr ⟨.inl h2, h1⟩
  · exact .inr ⟨.inr h2, h1⟩
  · exact .inr ⟨.inl h2, h1⟩
  · refine .inl ⟨h3, by rw [← bn_length y, h2]; exact h1, fun k hk => ?_⟩
    have h0 : ∀ x ∈ l, 0 ≤ x := fun x hx => (scal_le (List.all_eq_true.1 hs x hx)).1
    have hm : (y[k].toNat : Int) ∈ T := by
      rw [← h2, ← bn_get y k hk]
      have hl : k < (bn y).length := by rw [bn_length]; exact hk
      rw [List.getElem?_eq_getElem hl]; exact List.getElem_mem _
    exact (hE.ascii h0 _ hm).2
theorem and127 : ∀ n : Fin 256, bits BinOp.and IntKind.u8 (n.val : Int) 127 = (n.val : Int) % 128 := by decide +kernel
theorem and127_of (b : UInt8) : bits BinOp.and IntKind.u8 (b.toNat : Int) 127 = (b.toNat : Int) % 128 := and127 ⟨b.toNat, b.toNat_lt⟩
theorem conv1 (X : Int) (h0 : 0 ≤ X) (h1 : X < 128) : ∃ u : ByteArray, bn u = [X] ∧ u.size = 1 ∧ ∀ (W : World) (g : Nat), Boxed W g 5 (.int .u8 X) → (convert 34 9 (.slice (some ⟨g, 0, none⟩) 1 1)).run Try.prog W = .ok (.string u) W := by
  have e : ((UInt8.ofNat X.toNat).toNat : Int) = X := by rw [UInt8.toNat_ofNat']; omega
  refine ⟨⟨[UInt8.ofNat X.toNat].toArray⟩, ?_, rfl, fun W g h => ?_⟩
  · show [((UInt8.ofNat X.toNat).toNat : Int)] = [X]
    rw [e]
  · refine run_convert_bytes_back (P := Try.prog) W 34 9 5 ⟨g, 0, none⟩ 1 [UInt8.ofNat X.toNat] Try.underlying34 Try.underlying5 Try.underlying9 (fun j hj => ?_)
    have hj0 : j = 0 := by simp only [List.length_cons, List.length_nil] at hj; omega
    subst hj0
    rw [addr_add0]
    show _ = some (Value.int .u8 ((UInt8.ofNat X.toNat).toNat : Int))
    rw [e]; exact h.cell

set_option maxRecDepth 100000 in
set_option maxHeartbeats 8000000 in
theorem plain_walk (s : ByteArray) (r : Int) (w : World) (hs : s.size ≤ maxLen) (hr : (Lit.int .i32 r).wf = true) :
    Calls Try.prog 7 #[.string s, .int .i32 r] w fun e w' => e = .returned (.bool true) ∧ Below w.heap.size w w' := by
  unfold maxLen at hs
  go_enter Try.func7, Try.ntmps7
  by_cases h1 : 62 < s.size
  · go_wp2_with (go_at_call 8; refine (works_any _).mono ?_; rintro e w1 ⟨rfl, B1⟩)
    go_ret
    exact ⟨rfl, B1⟩
  · go_wp2_with fail
    go_loopw [5, 6, 7] (fun v5 v6 v7 wr => ∃ (k c : Nat) (a : Option Addr) (t : ByteArray), k ≤ s.size ∧ v5 = .slice a k c ∧ v6 = .string t ∧ v7 = .int .i64 k ∧ t.size = k ∧ Hid (wr.ownsRow w.heap.size 21 1 (.slice a k c) k ((m7 s k).map (Value.int .i32))) ∧ Hid (bn t = m7 s k) ∧ Hid (Below w.heap.size w wr))
      (fun _ _ v7 _ => s.size - (intOf v7).toNat)
    case atStart => exact ⟨0, 0, none, ⟨#[]⟩, Nat.zero_le _, rfl, rfl, rfl, rfl, World.ownsRow_nil _ _ _ _, rfl, Below.refl _ _⟩
    case round =>
      obtain ⟨k, c, a, t, hk, rfl, rfl, rfl, ht, HR, HT, HB⟩ := hrel
      by_cases hlt : k < s.size
      · have HM := hid (m7_snoc s k hlt)
        have hx0 : (0 : Int) ≤ (s[k].toNat : Int) := by omega
        have hx1 : (s[k].toNat : Int) ≤ 255 := by have := s[k].toNat_lt; omega
        have hx2 := and127_of s[k]
        obtain ⟨X, hX⟩ : ∃ X : Int, (s[k].toNat : Int) % 128 = X := ⟨_, rfl⟩
        have x0 : 0 ≤ X := by omega
        have x1 : X < 128 := by omega
        rw [hX] at HM hx2
        clear hX
        obtain ⟨u, hu, hus, hcv⟩ := conv1 X x0 x1
        have HU := hid hu
        have HCV := hid hcv
        have hsz : t.size + u.size ≤ 100 := by omega
        clear hu hcv
        go_wp2_with (at_builtin; refine U.wpList_append_ints rfl _ _ rfl w.heap.size _ k (m7 s k) rfl (HR.out.alloc _) _ [X] rfl (.inr ⟨⟨wr.heap.size, 0, none⟩, 1, rfl, fun j hj => by (have hj0 : j = 0 := by (simp only [List.length_cons, List.length_nil] at hj; omega)); subst hj0; rw [addr_add0]; exact (Boxed.new wr 21 (.int .i32 X)).cell⟩) (by simp only [List.length_cons, List.length_nil]; omega) (by have := HB.out.size; simp; omega) ?_; intro v1 w1 r1 g1; obtain ⟨a1, c1, rfl⟩ := own_sh21' r1; have hcv1 := HCV.out (w1.alloc (.cells #[.int .u8 X] 5)) w1.heap.size (Boxed.new w1 5 (.int .u8 X)))
        go_roundw
        case rel =>
          have b1 : Below w.heap.size w w1 := below_grow (w1 := wr.alloc (.cells #[.int .i32 X] 21)) (HB.out.alloc HB.out.size _) (Nat.le_trans HB.out.size (by simp)) (HR.out.alloc _) g1
          refine ⟨k + 1, c1, a1, t ++ u, by omega, rfl, rfl, by go_num, by rw [ByteArray.size_append]; omega, ?_, ?_, b1.alloc b1.size _⟩
          · show World.ownsRow _ _ _ _ _ _ _
            rw [HM.out]
            exact r1.alloc _
          · show bn (t ++ u) = _
            rw [bn_append, HT.out, HU.out, HM.out]
        case measure => simp [intOf]; omega
      · have hk62 : k ≤ 62 := by omega
        have hlt2 : s.size ≤ k := by omega
        obtain ⟨l, hl⟩ : ∃ l, m7 s k = l := ⟨_, rfl⟩
        have hbd := m7_bd s k
        have hlen := m7_len s k hk
        rw [hl] at HR HT hbd hlen
        clear hl
        have E1 := hid (enc_plain l (fun x hx => (hbd x hx).2))
        have E2 : Hid (l.all scal = true) := List.all_eq_true.2 (fun x hx => scal_low (hbd x hx).1 (hbd x hx).2)
        have HLen := hid hlen
        have HBd := hid hbd
        clear hbd hlen
        go_wp2_with (at_builtin; refine U.wpList_append_ints rfl _ _ rfl wr.heap.size (.slice none 0 0) 0 [] rfl (World.ownsRow_nil _ _ _ _) _ l rfl (SrcInts.own HLen.out.symm HR.out) (by rw [HLen.out]; omega) (Nat.le_refl _) ?_; intro v2 w2 r2 g2)
        have b2 : Below wr.heap.size wr w2 := (Below.refl _ wr).grown g2 (Nat.le_refl _) (fun k e => by simp [Value.ownBlock] at e)
        refine (pencode_any v2 l (by rw [HLen.out]; omega) w2 (IntsAt.own (Nat.zero_add _) (by simpa using r2))).mono ?_
        rintro e w3 ⟨⟨x, f, rfl, hE⟩, B3'⟩
        have hhd := hd_len l
        obtain ⟨q1, rfl⟩ := hE.ok (by rw [HLen.out]; omega) E2.out E1.out (by rw [HLen.out] at hhd; omega)
        have b3 : Below wr.heap.size wr w3 := b2.trans (B3'.mono b2.size)
        have B3 := hid (HB.out.trans (b3.mono HB.out.size))
        have R3 := hid (ownsRow_below HR.out b3 (Nat.le_refl _))
        clear r2 g2 b2 b3 B3' hhd
        by_cases hs0 : k = 0
        · have ex : x = ⟨#[]⟩ := bn_inj (by rw [q1, hd_none l (by rw [HLen.out]; exact hs0)]; rfl)
          have et : t = ⟨#[]⟩ := bn_inj (by rw [HT.out, show l = [] from List.eq_nil_of_length_eq_zero (by rw [HLen.out]; exact hs0)]; rfl)
          subst ex
          subst et
          subst hs0
          clear hE q1
          go_wp2_with (first
            | (at_builtin; refine U.wpList_append_ints rfl _ _ rfl w3.heap.size (.slice none 0 0) 0 [] rfl (World.ownsRow_nil _ _ _ _) _ l rfl (SrcInts.own HLen.out.symm R3.out) (by rw [HLen.out]; omega) (Nat.le_refl _) ?_; intro v4 w4 r4 g4; rw [Nat.zero_add, List.nil_append] at r4; obtain ⟨a4, c4, rfl⟩ := own_sh21' r4; have b4 := (Below.refl _ w3).grown g4 (Nat.le_refl _) (fun k e => by simp [Value.ownBlock] at e))
            | (at_builtin; refine U.wpList_append_ints rfl _ _ rfl w3.heap.size _ _ l rfl (r4.alloc _) _ [r] rfl (.inr ⟨⟨w4.heap.size, 0, none⟩, 1, rfl, fun j hj => by (have hj0 : j = 0 := by (simp only [List.length_cons, List.length_nil] at hj; omega)); subst hj0; rw [addr_add0]; exact (Boxed.new w4 21 (.int .i32 r)).cell⟩) (by simp only [List.length_cons, List.length_nil]; rw [HLen.out]; omega) (by have := b4.size; simp; omega) ?_; intro v5 w5 r5 g5; simp only [List.length_cons, List.length_nil, Nat.zero_add] at r5; obtain ⟨a5, c5, rfl⟩ := own_sh21' r5))
          have b5 : Below w3.heap.size w3 w5 := below_grow (w1 := w4.alloc (.cells #[.int .i32 r] 21)) (b4.alloc b4.size _) (Nat.le_trans b4.size (by simp)) (r4.alloc _) g5
          refine (pencode_any _ (l ++ [r]) (by rw [List.length_append, HLen.out]; simp only [List.length_cons, List.length_nil]; omega) w5 (IntsAt.own (by rw [List.length_append]; rfl) r5)).mono ?_
          rintro e w6 ⟨⟨y, f, rfl, hE⟩, B6⟩
          have b6 : Below w.heap.size w w6 := (B3.out.trans (b5.mono B3.out.size)).trans (B6.mono (Nat.le_trans B3.out.size b5.size))
          have B6' := hid b6
          clear r4 g4 b4 r5 g5 b5 B6 b6
          rcases enc_end hE with ⟨f0, hy1, hy2⟩ | ⟨f0, rfl⟩
          · subst f0
            have HY := hid hy2
            clear hE hy2
            go_wp2_with fail
            go_loop [12] (fun v => ∃ k : Nat, k ≤ y.size ∧ v = .int .i64 k) (fun v => y.size - (intOf v).toNat)
            case atStart => exact ⟨0, Nat.zero_le _, rfl⟩
            case round =>
              obtain ⟨k, hk, rfl⟩ := hrel
              by_cases hky : k < y.size
              · have hyk := HY.out k hky
                go_wp2
                exact ⟨⟨k + 1, by omega, by go_num⟩, by simp [intOf]; omega⟩
              · go_wp2_with (go_at_call 8; refine (works_any _).mono ?_; rintro e w7 ⟨rfl, B7⟩)
                go_ret
                exact ⟨rfl, B6'.out.trans (B7.mono B6'.out.size)⟩
          · clear hE
            go_wp2_with fail
            refine wp_loop_rounds 1 ?_
            rw [rounds_succ]
            go_wp2_with (go_at_call 8; refine (works_any _).mono ?_; rintro e w7 ⟨rfl, B7⟩)
            go_ret
            exact ⟨rfl, B6'.out.trans (B7.mono B6'.out.size)⟩
        · have ex : x = t ++ ⟨#[45]⟩ := bn_inj (by rw [q1, hd_some l (by rw [HLen.out]; omega), bn_append, HT.out]; rfl)
          have htl : (t.toList == []) = false := by
            rw [Lib.toList_data]
            have h2 : t.data.toList ≠ [] := fun e => by
              have h3 : t.data.toList.length = 0 := by rw [e]; rfl
              have h4 : t.size = t.data.toList.length := by simp
              omega
            simpa using h2
          subst ex
          clear hE q1
          go_wp2_with (first
            | (at_builtin; refine U.wpList_append_ints rfl _ _ rfl w3.heap.size (.slice none 0 0) 0 [] rfl (World.ownsRow_nil _ _ _ _) _ l rfl (SrcInts.own HLen.out.symm R3.out) (by rw [HLen.out]; omega) (Nat.le_refl _) ?_; intro v4 w4 r4 g4; rw [Nat.zero_add, List.nil_append] at r4; obtain ⟨a4, c4, rfl⟩ := own_sh21' r4; have b4 := (Below.refl _ w3).grown g4 (Nat.le_refl _) (fun k e => by simp [Value.ownBlock] at e))
            | (at_builtin; refine U.wpList_append_ints rfl _ _ rfl w3.heap.size _ _ l rfl (r4.alloc _) _ [r] rfl (.inr ⟨⟨w4.heap.size, 0, none⟩, 1, rfl, fun j hj => by (have hj0 : j = 0 := by (simp only [List.length_cons, List.length_nil] at hj; omega)); subst hj0; rw [addr_add0]; exact (Boxed.new w4 21 (.int .i32 r)).cell⟩) (by simp only [List.length_cons, List.length_nil]; rw [HLen.out]; omega) (by have := b4.size; simp; omega) ?_; intro v5 w5 r5 g5; simp only [List.length_cons, List.length_nil, Nat.zero_add] at r5; obtain ⟨a5, c5, rfl⟩ := own_sh21' r5))
          have b5 : Below w3.heap.size w3 w5 := below_grow (w1 := w4.alloc (.cells #[.int .i32 r] 21)) (b4.alloc b4.size _) (Nat.le_trans b4.size (by simp)) (r4.alloc _) g5
          refine (pencode_any _ (l ++ [r]) (by rw [List.length_append, HLen.out]; simp only [List.length_cons, List.length_nil]; omega) w5 (IntsAt.own (by rw [List.length_append]; rfl) r5)).mono ?_
          rintro e w6 ⟨⟨y, f, rfl, hE⟩, B6⟩
          have b6 : Below w.heap.size w w6 := (B3.out.trans (b5.mono B3.out.size)).trans (B6.mono (Nat.le_trans B3.out.size b5.size))
          have B6' := hid b6
          clear r4 g4 b4 r5 g5 b5 B6 b6
          rcases enc_end hE with ⟨f0, hy1, hy2⟩ | ⟨f0, rfl⟩
          · subst f0
            have HY := hid hy2
            clear hE hy2
            go_wp2_with fail
            go_loop [12] (fun v => ∃ k : Nat, k ≤ y.size ∧ v = .int .i64 k) (fun v => y.size - (intOf v).toNat)
            case atStart => exact ⟨0, Nat.zero_le _, rfl⟩
            case round =>
              obtain ⟨k, hk, rfl⟩ := hrel
              by_cases hky : k < y.size
              · have hyk := HY.out k hky
                go_wp2
                exact ⟨⟨k + 1, by omega, by go_num⟩, by simp [intOf]; omega⟩
              · go_wp2_with (go_at_call 8; refine (works_any _).mono ?_; rintro e w7 ⟨rfl, B7⟩)
                go_ret
                exact ⟨rfl, B6'.out.trans (B7.mono B6'.out.size)⟩
          · clear hE
            go_wp2_with fail
            refine wp_loop_rounds 1 ?_
            rw [rounds_succ]
            go_wp2_with (go_at_call 8; refine (works_any _).mono ?_; rintro e w7 ⟨rfl, B7⟩)
            go_ret
            exact ⟨rfl, B6'.out.trans (B7.mono B6'.out.size)⟩
end Go.Proofs.Ytpjbiapgkbooaaa
