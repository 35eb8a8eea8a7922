/- The program's appendTold: each byte of a text told by a percent sign. -/
import Derived.Test.YtnkbfpmaifgenaaEX
import Derived.Test.YtnkbfpmaifgenaaGQ
import Derived.Laws.BitsLemmas
namespace Go.Proofs.Ytnkbfpmaifgenaa.E
open Go.RowKit
set_option linter.unusedVariables false

theorem own_sh5 {base n : Nat} {v : Value} {X : List Value} {W : World} (h : W.ownsRow base 5 1 v n X) : ∃ a cap, v = .slice a n cap := by
  rcases h.2 with ⟨rfl, h0⟩ | ⟨g, cap, cur, rfl, _⟩
  · exact ⟨none, 0, by rw [h0]⟩
  · exact ⟨_, cap, rfl⟩
theorem take_one (L : List Int) (k : Nat) (h : k < L.length) : L.take (k + 1) = L.take k ++ [L[k]?.getD 0] := by
  rw [List.take_succ_eq_append_getElem h, List.getElem?_eq_getElem h]; rfl
theorem digs : ∀ p : Fin 16, (((⟨#[48, 49, 50, 51, 52, 53, 54, 55, 56, 57, 65, 66, 67, 68, 69, 70]⟩ : ByteArray)[p.val]'(by simp [ByteArray.size])).toNat : Int) = dg p.val := by decide
theorem dig_at {p : Int} (h0 : 0 ≤ p) (h1 : p ≤ 15) (h : p.toNat < (⟨#[48, 49, 50, 51, 52, 53, 54, 55, 56, 57, 65, 66, 67, 68, 69, 70]⟩ : ByteArray).size) : (((⟨#[48, 49, 50, 51, 52, 53, 54, 55, 56, 57, 65, 66, 67, 68, 69, 70]⟩ : ByteArray)[p.toNat]'h).toNat : Int) = dg p := by
  have := digs ⟨p.toNat, by omega⟩
  simp only at this
  rw [this]
  congr 1
  omega
theorem and_tab : ∀ y : Fin 256, bits BinOp.and IntKind.u8 y.val 15 = ((y.val % 16 : Nat) : Int) := by decide +kernel
theorem and15 {y : Int} (h0 : 0 ≤ y) (h1 : y ≤ 255) : bits BinOp.and IntKind.u8 y 15 = y % 16 := by
  have := and_tab ⟨y.toNat, by omega⟩
  simp only at this
  rw [show ((y.toNat : Nat) : Int) = y by omega] at this
  rw [this]
  omega
theorem pes_step (l : List Int) (j : Nat) (h : j < l.length) : (l.take (j + 1)).flatMap pe = (l.take j).flatMap pe ++ pe (l[j]?.getD 0) := by
  rw [take_one l j h, List.flatMap_append]; simp
/-- What has been told. -/
def ToldR (base : Nat) (Z : List Int) (w : World) (e : Ending) (W' : World) : Prop := ∃ a c, e = .returned (.slice a Z.length c) ∧ W'.ownsRow base 5 1 (.slice a Z.length c) Z.length (Z.map (Value.int .u8)) ∧ Below base w W'
set_option maxRecDepth 100000 in
set_option maxHeartbeats 4000000 in
theorem told_any (base : Nat) (a : Option Addr) (n c : Nat) (X : List Int) (t : ByteArray) (w : World) (hn : n = X.length) (hrow : w.ownsRow base 5 1 (.slice a n c) n (X.map (Value.int .u8))) (hb : base ≤ w.heap.size) (hX : n ≤ 4000000) (ht : t.size ≤ 100) :
    Calls Try.prog 18 #[.slice a n c, .string t] w fun e W' => ToldR base (X ++ (U.bn t).flatMap pe) w e W' := by
  obtain ⟨i0, hi, hz0, hz1, hz2⟩ := info_parts U.Try.info5
  have HGS : Hid (∀ a c W, W.ownsRow base 5 1 (.slice a (n + 3 * t.size) c) (n + 3 * t.size) ((X ++ (U.bn t).flatMap pe).map (Value.int .u8)) → Below base w W → ToldR base (X ++ (U.bn t).flatMap pe) w (.returned (.slice a (n + 3 * t.size) c)) W) := fun a c W h hB => by
    have e : n + 3 * t.size = (X ++ (U.bn t).flatMap pe).length := by rw [List.length_append, pes_len, U.bn_length, hn]
    rw [e] at h ⊢
    exact ⟨a, c, rfl, h, hB⟩
  have HR0 := hid hrow
  have HST : Hid (∀ j, j < t.size → _) := fun j (h : j < t.size) => pes_step (U.bn t) j (by rw [U.bn_length]; exact h)
  have HGT := hid (bn_get t)
  have HBD := hid (fun j (h : j < t.size) => byte_bd (s := t) h)
  have HFU : Hid ((U.bn t).take t.size = U.bn t) := List.take_of_length_le (by rw [U.bn_length]; exact Nat.le_refl _)
  clear hrow hn
  obtain ⟨l, hl⟩ : ∃ l, U.bn t = l := ⟨_, rfl⟩
  rw [hl] at HGS HST HGT HBD HFU ⊢
  clear hl
  go_enter Try.func18, Try.ntmps18
  go_wp2_with fail
  go_loopw [0, 8] (fun v0 v8 wr => ∃ (j m c : Nat) (a : Option Addr), j ≤ t.size ∧ m ≤ n + 3 * j ∧ n + 3 * j ≤ m ∧ v0 = .slice a m c ∧ v8 = .int .i64 j ∧ Hid (wr.ownsRow base 5 1 (.slice a m c) m ((X ++ (l.take j).flatMap pe).map (Value.int .u8))) ∧ Hid (Below base w wr)) (fun _ v8 _ => t.size - (intOf v8).toNat)
  case atStart => exact ⟨0, n, c, a, Nat.zero_le _, by omega, by omega, rfl, rfl, by show World.ownsRow _ _ _ _ _ _ _; rw [List.take_zero]; simpa using HR0.out, Below.refl _ _⟩
  case round =>
    obtain ⟨j, m, c, a, hj, hm1, hm2, rfl, rfl, HR, HB⟩ := hrel
    by_cases hlt : j < t.size
    · have hg0 := (HGT.out j hlt).symm
      obtain ⟨hy0, hy1⟩ := HBD.out j hlt
      have HS := hid (HST.out j hlt)
      have zj := Nat.le_trans hb HB.out.size
      obtain ⟨y, hy⟩ : ∃ y, l[j]?.getD 0 = y := ⟨_, rfl⟩
      rw [hy] at hg0 hy0 hy1 HS
      have HPE : Hid (pe y = [37, dg (y / 16), dg (y % 16)]) := rfl
      have hD1 := fun h => dig_at (p := y / 16) (by omega) (by omega) h
      have hD2 := fun h => dig_at (p := y % 16) (by omega) (by omega) h
      obtain ⟨p1, hp1⟩ : ∃ p1, y / 16 = p1 := ⟨_, rfl⟩
      obtain ⟨p2, hp2⟩ : ∃ p2, y % 16 = p2 := ⟨_, rfl⟩
      have hand : bits BinOp.and IntKind.u8 y 15 = p2 := by rw [and15 hy0 hy1]; exact hp2
      have hp1a : 0 ≤ p1 ∧ p1 ≤ 15 := by omega
      have hp2a : 0 ≤ p2 ∧ p2 ≤ 15 := by omega
      rw [hp1] at HPE hD1
      rw [hp2] at HPE hD2
      obtain ⟨q1, q2⟩ := hp1a
      obtain ⟨q3, q4⟩ := hp2a
      obtain ⟨d1, hd1⟩ : ∃ d1, dg p1 = d1 := ⟨_, rfl⟩
      obtain ⟨d2, hd2⟩ : ∃ d2, dg p2 = d2 := ⟨_, rfl⟩
      rw [hd1] at HPE hD1
      rw [hd2] at HPE hD2
      obtain ⟨Z, hZ⟩ : ∃ Z, X ++ (l.take j).flatMap pe = Z := ⟨_, rfl⟩
      have HZ : Hid (X ++ (l.take (j + 1)).flatMap pe = Z ++ [37, d1, d2]) := by show _ = _; rw [HS.out, HPE.out, ← List.append_assoc, hZ]
      rw [hZ] at HR
      clear hd1 hd2 hy hZ HPE HS
      go_wp2_with fail
      refine wp_region_free 11 (by kernel_rfl) (by kernel_rfl) ?_
      simp only [List.take_succ_cons, List.take_zero, List.drop_succ_cons, List.drop_zero]
      refine wpFree_val (.slice a m c) rfl (fun W => by go_simp) ?_
      refine wpFree_val (.string t) rfl (fun W => by go_simp) ?_
      refine wpFree_val (.int .i64 j) rfl (fun W => by go_simp) ?_
      refine wpFree_val (.int .u8 y) rfl (fun W => by go_simp) ?_
      refine wpFree_val (.int .u8 p1) rfl (fun W => by go_simp) ?_
      refine wpFree_val (.int .u8 d1) rfl (fun W => by go_simp; intro h; omega) ?_
      refine wpFree_val (.string t) rfl (fun W => by go_simp) ?_
      refine wpFree_val (.int .i64 j) rfl (fun W => by go_simp) ?_
      refine wpFree_val (.int .u8 y) rfl (fun W => by go_simp) ?_
      refine wpFree_val (.int .u8 p2) rfl (fun W => by go_simp) ?_
      refine wpFree_val (.int .u8 d2) rfl (fun W => by go_simp; intro h; omega) ?_
      refine wpFree_nil ?_
      show wpList _ _ _ _ _ wr.drew
      clear hD1 hD2
      go_wp2_with (at_builtin; refine wpList_append_own _ rfl _ _ 37 rfl base 5 i0 (.int .u8 0) 1 1 Try.underlying37 hi hz0 hz1 hz2 rfl (by decide) _ _ _ rfl ((HR.out.drew).alloc _) ⟨wr.heap.size, 0, none⟩ 3 3 [.int .u8 37, .int .u8 d1, .int .u8 d2] rfl rfl (U.news_at wr.drew _ _) (by simp [Value.oneCell']) (by unfold maxLen; omega) (by omega) (by simp; omega) ?_; intro v3 w3 r3 g3 _; obtain ⟨a3, c3, rfl⟩ := own_sh5 r3)
      have G3 : Hid ((wr.alloc (.cells #[.int .u8 37, .int .u8 d1, .int .u8 d2] 5)).drew.grownBy w3 (Value.slice a m c).ownBlock) := g3
      have R3 := hid r3
      clear r3 g3
      refine ⟨rfl, ?_⟩
      go_wp2_with fail
      go_roundw
      case rel =>
        refine ⟨j + 1, m + 3, c3, a3, by omega, by omega, by omega, rfl, by go_num, ?_, U.below_grow (w1 := (wr.alloc (.cells #[.int .u8 37, .int .u8 d1, .int .u8 d2] 5)).drew) ((HB.out.alloc zj _).drew) (Nat.le_trans zj (by simp)) ((HR.out.alloc _).drew) G3.out⟩
        show World.ownsRow _ _ _ _ _ _ _
        rw [HZ.out, List.map_append]; exact R3.out
      case measure => simp [intOf]; omega
    · obtain rfl : j = t.size := by omega
      obtain rfl : m = n + 3 * t.size := by omega
      rw [HFU.out] at HR
      go_wp2
      go_ret
      exact HGS.out _ _ _ HR.out HB.out
end Go.Proofs.Ytnkbfpmaifgenaa.E
