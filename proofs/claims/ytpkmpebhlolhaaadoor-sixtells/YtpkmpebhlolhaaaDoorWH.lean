/- six.undotted. (Stage 11.) -/
import Derived.Test.YtpkmpebhlolhaaaDoorWE
import Derived.Test.YtpkmpebhlolhaaaDoorWG
import Derived.Shelf.Strings.LastIndex
import Derived.Shelf.Strings.Search3
namespace Go.Proofs
open Go.Shelf Go.RowKit
shelf_lay Lays.n149 Nm 149 at Tryd as Tryd.laysLastX
shelf_lay Lays.n144 Nm 144 at Tryd as Tryd.laysConX
end Go.Proofs
namespace Go.Proofs.YtpkmpebhlolhaaaDoor.X
open Go.RowKit
open Go.Proofs.YtpkmpebhlolhaaaDoor.F (hx hx_bd vl vl_snoc bn bn_length bn_append bn_inj bn_get byte_bd hid bn_extract isEmpty_false isEmpty_true str_eq same_eq)
set_option linter.unusedVariables false

theorem data_bn (s : ByteArray) (j : Nat) (h : j < s.size) : ((s.data[j]!).toNat : Int) = (bn s)[j]?.getD 0 := by
  rw [bn_get s j h]
  have h5 : j < s.data.size := h
  rw [getElem!_pos s.data j h5]
  rfl
/-- Where the last part begins. -/
theorem last_piece (s : ByteArray) : ∃ k : Nat, k ≤ s.size ∧ Lib.lastIndexByte s 58 = (k : Int) - 1 ∧ ¬ 58 ∈ (bn s).drop k ∧ ((bn s).take k = [] ∨ ∃ Y, (bn s).take k = Y ++ [58]) := by
  have hl := bn_length s
  rcases Lib.lastIndexByte_spec s 58 with ⟨h1, h2⟩ | ⟨i, hi, h1, h2, h3⟩
  · refine ⟨0, Nat.zero_le _, by rw [h1]; rfl, ?_, .inl rfl⟩
    rw [List.drop_zero]
    intro h
    obtain ⟨j, hj, e⟩ := List.mem_iff_getElem.1 h
    have := h2 j (by omega)
    rw [data_bn s j (by omega), List.getElem?_eq_getElem hj] at this
    exact this e
  · refine ⟨i + 1, by omega, by rw [h1]; omega, ?_, .inr ⟨(bn s).take i, ?_⟩⟩
    · intro h
      obtain ⟨j, hj, e⟩ := List.mem_iff_getElem.1 h
      rw [List.length_drop] at hj
      rw [List.getElem_drop] at e
      have := h3 (i + 1 + j) (by omega) (by omega)
      rw [data_bn s _ (by omega), List.getElem?_eq_getElem (by omega)] at this
      exact this e
    · rw [take_byte _ _ (by omega), ← data_bn s i hi, h2]
theorem has_dot (t : ByteArray) : decide (0 ≤ Lib.indexByte t.data.toList 46) = decide (46 ∈ bn t) := by
  apply decide_eq_decide.2
  have hm : (46 : Int) ∈ bn t ↔ (46 : UInt8) ∈ t.data.toList := mem_nn (b := 46) (l := t.data.toList)
  rw [hm]
  have hge := Lib.indexByte_ge t.data.toList 46
  constructor
  · intro h
    obtain ⟨i, hi⟩ : ∃ i : Nat, Lib.indexByte t.data.toList 46 = i := ⟨(Lib.indexByte t.data.toList 46).toNat, by omega⟩
    exact List.mem_of_getElem? (Lib.indexByte_some hi).1
  · intro h
    by_cases hm : Lib.indexByte t.data.toList 46 = -1
    · obtain ⟨j, hj, e⟩ := List.mem_iff_getElem.1 h
      exact absurd (by rw [List.getElem?_eq_getElem hj, e]) (Lib.indexByte_none hm j)
    · omega
theorem lastb_any (s : ByteArray) (k : Nat) (hk : Lib.lastIndexByte s 58 = (k : Int) - 1) (hs : s.size ≤ 1000000000) (w : World) : Calls Tryd.prog 22 #[.string s, .int .u8 58] w fun e W' => e = .returned (.int .i64 ((k : Int) - 1)) ∧ W' = w := by
  have hf : Tryd.laysLastX_ren.f 149 = 22 := by kernel_rfl
  have h := Any.strings_LastIndexByte Tryd.laysLastX s 58 (by omega) w
  rw [hf, hk] at h
  exact h
theorem con_any (t : ByteArray) (b : Bool) (hb : decide (46 ∈ bn t) = b) (w : World) : Calls Tryd.prog 23 #[.string t, .string ⟨#[46]⟩] w fun e W' => e = .returned (.bool b) ∧ W' = w := by
  have hf : Tryd.laysConX_ren.f 144 = 23 := by kernel_rfl
  have h := Any.strings_Contains_one Tryd.laysConX t 46 w
  rw [hf, has_dot, hb] at h
  exact h
/-- What six.undotted answers. -/
def UndR (l : List Int) (s : ByteArray) (e : Ending) : Prop := ∃ X p, l = X ++ p ∧ ¬ 58 ∈ p ∧ (X = [] ∨ ∃ Y, X = Y ++ [58]) ∧
  ((¬ 46 ∈ p ∧ e = .returned (.tuple #[.string s, .bool true])) ∨ (46 ∈ p ∧ dt p = none ∧ e = .returned (.tuple #[.string ⟨#[]⟩, .bool false])) ∨
   (46 ∈ p ∧ ∃ (h l : Nat) (t : ByteArray), h < 65536 ∧ l < 65536 ∧ dt p = some [h, l] ∧ bn t = X ++ (hexT false false h ++ 58 :: hexT false false l) ∧ t.size ≤ s.size + 10 ∧ e = .returned (.tuple #[.string t, .bool true])))
theorem bn_front (s : ByteArray) (k : Nat) (hk : k ≤ s.size) : bn (s.extract 0 k) = (bn s).take k := by
  rw [bn_sub s 0 k (Nat.zero_le _) hk]; simp
theorem tell2 (h l : Nat) (hh : h < 65536) (hl : l < 65536) (base : Nat) (v : Value) (x : List Int) (w : World) (hT : Tab w) (hg : 5 < base) (hx : x.length ≤ 1000000) (hrow : Bts 5 w base v x) (hb : base ≤ w.heap.size) :
    Calls Tryd.prog 20 #[v, .agg #[.int .u16 h, .int .u16 l, .int .u16 0, .int .u16 0, .int .u16 0, .int .u16 0, .int .u16 0, .int .u16 0], .int .i64 0, .int .i64 2] w fun e W' => ∃ v', e = .returned v' ∧ Bts 5 W' base v' (x ++ (hexT false false h ++ 58 :: hexT false false l)) ∧ Below base w W' :=
  tell_lit h l 0 0 0 0 0 0 (by intro y hy; simp at hy; omega) base v x 0 2 (by omega) (by omega) w hT hg hx hrow hb
set_option maxRecDepth 100000 in
set_option maxHeartbeats 8000000 in
theorem undotted_any (s : ByteArray) (hs : s.size ≤ 100000) (w : World) (hE : Er w) (hM : Mx w) (hT : Tab w) : Calls Tryd.prog 14 #[.string s] w fun e W' => UndR (bn s) s e ∧ Below w.heap.size w W' := by
  obtain ⟨k, hks, hk, h58, hX⟩ := last_piece s
  have HLB := hid (lastb_any s k hk (by omega))
  have hbp := bn_extract s k
  have hbx := bn_front s k hks
  have hcat : bn s = (bn s).take k ++ (bn s).drop k := (List.take_append_drop k (bn s)).symm
  have HMK : Hid (∀ e, ((¬ 46 ∈ (bn s).drop k ∧ e = .returned (.tuple #[.string s, .bool true])) ∨ (46 ∈ (bn s).drop k ∧ dt ((bn s).drop k) = none ∧ e = .returned (.tuple #[.string ⟨#[]⟩, .bool false])) ∨
   (46 ∈ (bn s).drop k ∧ ∃ (h l : Nat) (t : ByteArray), h < 65536 ∧ l < 65536 ∧ dt ((bn s).drop k) = some [h, l] ∧ bn t = (bn s).take k ++ (hexT false false h ++ 58 :: hexT false false l) ∧ t.size ≤ s.size + 10 ∧ e = .returned (.tuple #[.string t, .bool true]))) → UndR (bn s) s e) := fun e h => ⟨_, _, hcat, h58, hX, h⟩
  have hpz : (s.extract k s.size).size = s.size - k := by simp
  have hxz : (s.extract 0 k).size = k := by simp; omega
  have HCO := hid (fun b hb => con_any (s.extract k s.size) b hb)
  have HPA := hid (pair_any (s.extract k s.size) (by omega) w hE hM)
  have HBX := hid (fun (t : ByteArray) (j : Nat) (hj : j < t.size) => byte_bd hj)
  have hgT := Lib.lt_of_cell (show w.cell? ⟨5, 15, none⟩ = some (.int .u8 4) from hT)
  rw [hbp] at HCO HPA
  have hcat2 : ((bn s).take k).length = k := by rw [List.length_take, bn_length]; omega
  have HXB : Hid (∀ x ∈ (bn s).take k, 0 ≤ x ∧ x ≤ 255) := fun x hx => by
    obtain ⟨j, hj, e⟩ := List.mem_iff_getElem.1 (List.mem_of_mem_take hx)
    have := byte_bd (s := s) (i := j) (by rw [← bn_length]; exact hj)
    rw [List.getElem?_eq_getElem hj] at this
    rw [← e]; exact this
  obtain ⟨R, hR⟩ : ∃ R, UndR (bn s) s = R := ⟨_, rfl⟩
  rw [hR] at HMK ⊢
  obtain ⟨p, hp⟩ : ∃ p, (bn s).drop k = p := ⟨_, rfl⟩
  obtain ⟨x, hx⟩ : ∃ x, (bn s).take k = x := ⟨_, rfl⟩
  rw [hp] at HMK HCO HPA
  rw [hx] at HMK hbx hcat2 HXB
  have HBXX := hid hbx
  have HCL := hid hcat2
  obtain ⟨P, hP⟩ : ∃ P, s.extract k s.size = P := ⟨_, rfl⟩
  have HPP := hid hP
  rw [hP] at HCO HPA
  have hkz : (k : Int) ≤ (s.size : Int) := by omega
  clear hR hp hx hcat h58 hX hk hbp hbx hE hM hcat2 hpz hP HBX
  by_cases hd : 46 ∈ p
  · have HD := hid hd
    have HC1 := hid (HCO.out true (decide_eq_true hd))
    clear HCO hd
    go_enter Tryd.func14, Tryd.ntmps14
    go_wp2_with (first
      | (go_at_call 22; refine (HLB.out _).mono ?_; rintro e w2 ⟨rfl, hw2⟩; obtain rfl := hw2.symm)
      | (go_at_call 23; rw [HPP.out]; refine (HC1.out _).mono ?_; rintro e w2 ⟨rfl, hw2⟩; obtain rfl := hw2.symm))
    refine HPA.out.mono ?_
    rintro e w1 ⟨hpr, B1⟩
    have HB1 := hid B1
    have HT1 := hid (hT.below B1 (Nat.le_refl _))
    have hz1 := B1.size
    clear B1 HPA
    rcases hpr with ⟨h, l, hdt, hh, hl, rfl⟩ | ⟨hdt, rfl⟩
    · have hcv := Lib.run_convert_string_bytes (P := Tryd.prog) w1 9 50 5 (s.extract 0 k) (u := .string) Tryd.underlying9 Tryd.underlying50 Tryd.underlying5
      have hbt := bts_of_text w1 5 (s.extract 0 k) (by omega)
      have hb2 := text_below w1 5 (s.extract 0 k)
      rw [HBXX.out] at hbt
      rw [hxz] at hcv hbt
      obtain ⟨c, hc⟩ : ∃ c, grownCap w1 k 0 5 = c := ⟨_, rfl⟩
      obtain ⟨W2, hW2⟩ : ∃ W2, Lib.bytesWorld w1 5 (s.extract 0 k) = W2 := ⟨_, rfl⟩
      rw [hc, hW2] at hcv hbt
      rw [hW2] at hb2
      have HB2 := hid hb2
      have HBT := hid hbt
      have HT2 := hid (HT1.out.below hb2 (Nat.le_refl _))
      have HDT := hid hdt
      have HTL := hid (tell2 h l hh hl w1.heap.size _ x W2 HT2.out (by omega) (by rw [HCL.out]; omega) HBT.out hb2.size)
      clear hc hW2 hbt hb2 hdt
      go_wp2_with fail
      refine HTL.out.mono ?_
      rintro e w3 ⟨v', rfl, h3, B3⟩
      have hlh := hexT_len false false h
      have hll := hexT_len false false l
      obtain ⟨y, hy⟩ : ∃ y, x ++ (hexT false false h ++ 58 :: hexT false false l) = y := ⟨_, rfl⟩
      have hylen : y.length ≤ k + 10 ∧ y ≠ [] := by
        rw [← hy]
        refine ⟨?_, by simp⟩
        simp only [List.length_append, List.length_cons, HCL.out]
        omega
      rw [hy] at h3
      have hyb : ∀ b ∈ y, 0 ≤ b ∧ b ≤ 255 := by
        intro b hb
        rw [← hy] at hb
        rcases List.mem_append.1 hb with hb | hb
        · exact HXB.out b hb
        · rcases List.mem_append.1 hb with hb | hb
          · exact hexT_bytes hh b hb
          · rcases List.mem_cons.1 hb with rfl | hb
            · decide
            · exact hexT_bytes hl b hb
      obtain ⟨g, c3, rfl, _, _, _, hcells⟩ := h3.there hylen.2
      obtain ⟨t, hcv3, ht⟩ := conv_at w3 g 0 y.length c3 y rfl hyb (fun j hj => by rw [Nat.zero_add]; exact hcells j hj)
      have hts : t.size ≤ s.size + 10 := by rw [← bn_length, ht]; omega
      have HR := hid (HMK.out (.returned (.tuple #[.string t, .bool true])) (.inr (.inr ⟨HD.out, h, l, t, hh, hl, HDT.out, by rw [ht, ← hy], hts, rfl⟩)))
      have HBF : Hid (Below w.heap.size w w3) := HB1.out.trans ((HB2.out.mono hz1).trans (B3.mono hz1))
      obtain ⟨n3, hn3⟩ : ∃ n3, y.length = n3 := ⟨_, rfl⟩
      rw [hn3] at hcv3 ⊢
      clear hn3 hy hylen h3 hyb hcells ht hts B3 HTL HMK HDT HD HBT HT2 HB2 HT1 HB1 hlh hll
      go_wp2
      go_ret2
      exact ⟨HR.out, HBF.out⟩
    · have HR := hid (HMK.out _ (.inr (.inl ⟨HD.out, hdt, rfl⟩)))
      clear HMK hdt
      go_wp2
      go_ret2
      exact ⟨HR.out, HB1.out⟩
  · have HR := hid (HMK.out _ (.inl ⟨hd, rfl⟩))
    have HC1 := hid (HCO.out false (decide_eq_false hd))
    clear HCO hd HMK HPA
    go_enter Tryd.func14, Tryd.ntmps14
    go_wp2_with (first
      | (go_at_call 22; refine (HLB.out _).mono ?_; rintro e w2 ⟨rfl, hw2⟩; obtain rfl := hw2.symm)
      | (go_at_call 23; rw [HPP.out]; refine (HC1.out _).mono ?_; rintro e w2 ⟨rfl, hw2⟩; obtain rfl := hw2.symm))
    go_ret2
    exact ⟨HR.out, Below.refl _ _⟩
end Go.Proofs.YtpkmpebhlolhaaaDoor.X
