/- The contract of utf.Encode: the bytes of its code points, or an error where one is no scalar. -/
import Derived.Test.YtpjbiapgkbooaaaUC
namespace Go.Proofs.Ytpjbiapgkbooaaa.U
open Go.RowKit

/-- The slice value v leads to the numbers zs (of kind int32). -/
def IntsAt (w : World) (v : Value) (zs : List Int) : Prop :=
  (zs = [] ∧ ∃ a cap, v = .slice a 0 cap) ∨ (0 < zs.length ∧ ∃ b off cap, v = .slice (some ⟨b, off, none⟩) zs.length cap ∧ ∀ j, j < zs.length → w.cell? ⟨b, off + j, none⟩ = some (.int .i32 (zs[j]?.getD 0)))
theorem lt_of_cell {w : World} {a : Addr} {v : Value} (h : w.cell? a = some v) : a.block < w.heap.size := by
  by_cases hb : a.block < w.heap.size
  · exact hb
  · simp [World.cell?, Array.getElem?_eq_none (Nat.le_of_not_lt hb)] at h
theorem IntsAt.below {A B : World} {n : Nat} (h : Below n A B) (hn : A.heap.size ≤ n) {v : Value} {zs : List Int} : IntsAt A v zs → IntsAt B v zs
  | .inl e => .inl e
  | .inr ⟨hp, b, off, cap, e, hc⟩ => .inr ⟨hp, b, off, cap, e, fun j hj => (h.cell (p := ⟨b, off + j, none⟩) (Nat.lt_of_lt_of_le (lt_of_cell (hc j hj)) hn)).trans (hc j hj)⟩
theorem IntsAt.own {w : World} {base : Nat} {v : Value} {n : Nat} {zs : List Int} (hn : n = zs.length) (h : w.ownsRow base 21 1 v n (zs.map (Value.int .i32))) : IntsAt w v zs := by
  subst hn
  rcases id h.2 with ⟨rfl, h0⟩ | ⟨g, cap, cur, rfl, _⟩
  · exact .inl ⟨List.length_eq_zero_iff.1 h0, _, _, rfl⟩
  · by_cases hz : zs.length = 0
    · exact .inl ⟨List.length_eq_zero_iff.1 hz, _, _, by rw [hz]⟩
    · refine .inr ⟨by omega, g, 0, cap, rfl, fun j hj => ?_⟩
      rw [Nat.zero_add, h.cellAt j (by omega), List.getElem?_map, List.getElem?_eq_getElem hj]
      rfl

theorem take_snoc_int (zs : List Int) (k : Nat) (h : k < zs.length) : zs.take (k + 1) = zs.take k ++ [zs[k]?.getD 0] := by
  rw [List.take_succ_eq_append_getElem h, List.getElem?_eq_getElem h]; rfl
theorem encs_take_snoc (zs : List Int) (k : Nat) (h : k < zs.length) : encs (zs.take (k + 1)) = encs (zs.take k) ++ enc (zs[k]?.getD 0) := by
  rw [take_snoc_int zs k h, encs_snoc]
theorem all_take_snoc (zs : List Int) (k : Nat) (h : k < zs.length) (ha : (zs.take k).all scal = true) (hs : scal (zs[k]?.getD 0) = true) : (zs.take (k + 1)).all scal = true := by
  rw [take_snoc_int zs k h, List.all_append, ha]; simp [hs]
theorem all_false (zs : List Int) (k : Nat) (h : k < zs.length) (hs : scal (zs[k]?.getD 0) = false) : zs.all scal = false := by
  rw [← List.take_append_drop (k + 1) zs, take_snoc_int zs k h, List.all_append, List.all_append]
  simp [hs]
theorem scal_bd {c : Int} (h : scal c = true) : 0 ≤ c ∧ c ≤ 1114111 := by
  unfold scal at h; rw [decide_eq_true_eq] at h; omega
theorem all_bd {zs : List Int} (h : zs.all scal = true) : ∀ c ∈ zs, 0 ≤ c ∧ c ≤ 1114111 := fun c hc => scal_bd (List.all_eq_true.1 h c hc)

/-- What utf.Encode answers. -/
def encR (zs : List Int) (t : ByteArray) (e : Int) : Prop := (zs.all scal = true ∧ e = 0 ∧ bn t = encs zs) ∨ (zs.all scal = false ∧ e = 2 ∧ t = ⟨#[]⟩)

set_option maxRecDepth 100000 in
set_option maxHeartbeats 2000000 in
theorem encode_some (b off cap : Nat) (zs : List Int) (hlen : zs.length ≤ 17179869184) (w : World) (hp : 0 < zs.length) (hc : ∀ j, j < zs.length → w.cell? ⟨b, off + j, none⟩ = some (.int .i32 (zs[j]?.getD 0))) :
    Calls Try.prog 16 #[.slice (some ⟨b, off, none⟩) zs.length cap] w fun e W' => (∃ t r, e = .returned (.tuple #[.string t, .int .i64 r]) ∧ encR zs t r) ∧ Below w.heap.size w W' := by
  have hb : b < w.heap.size := lt_of_cell (hc 0 hp)
  go_enter Try.func16, Try.ntmps16
  go_wp2_with fail
  go_loopw [4, 9] (fun v i wr => ∃ k : Nat, k ≤ zs.length ∧ i = .int .i64 k ∧ (zs.take k).all scal = true ∧ wr.ownsRow w.heap.size 5 1 v (encs (zs.take k)).length ((encs (zs.take k)).map (Value.int .u8)) ∧ Below w.heap.size w wr)
    (fun _ i _ => zs.length - (intOf i).toNat)
  case atStart => exact ⟨0, Nat.zero_le _, rfl, by simp, World.ownsRow_nil _ _ _ _, Below.refl _ _⟩
  case round =>
    obtain ⟨k, hk, rfl, hall, hrow, hB⟩ := hrel
    by_cases hlt : k < zs.length
    · have hck : wr.cell? ⟨b, off + k, none⟩ = some (.int .i32 (zs[k]?.getD 0)) := (hB.cell (p := ⟨b, off + k, none⟩) hb).trans (hc k hlt)
      have hel := encs_len (zs.take k)
      have htl : (zs.take k).length ≤ k := List.length_take_le _ _
      have H1 : Hid ((zs.take k).all scal = true) := hall
      have H2 : Hid (encs (zs.take (k + 1)) = encs (zs.take k) ++ enc (zs[k]?.getD 0)) := encs_take_snoc zs k hlt
      clear hall
      obtain ⟨c, hcc⟩ : ∃ c, c = zs[k]?.getD 0 := ⟨_, rfl⟩
      rw [← hcc] at hck
      have HC : Hid (c = zs[k]?.getD 0) := hcc
      clear hcc
      cases hsc : scal c with
      | true =>
        have HS : Hid (scal c = true) := hsc
        clear hsc
        have hbd := scal_bd HS.out
        go_wp2_with fail
        refine (isScalar_any _ _).mono ?_
        rw [HS.out]
        rintro e w' ⟨rfl, rfl⟩
        go_wp2_with fail
        refine (append_any w.heap.size _ _ _ _ hbd.1 hbd.2 _ hB.size (by omega) hrow).mono ?_
        rintro e w1 ⟨v', rfl, hown', hgrow⟩
        have R : Hid (w1.ownsRow w.heap.size 5 1 v' (encs (zs.take (k + 1))).length ((encs (zs.take (k + 1))).map (Value.int .u8))) := by
          show w1.ownsRow _ _ _ _ _ _
          rw [H2.out, ← HC.out, List.length_append, List.map_append]; exact hown'
        have hB1 : Below w.heap.size w w1 := hB.grown hgrow hB.size (fun j ej => by
          rcases hrow.2 with ⟨rfl, _⟩ | ⟨g, cap, cur, rfl, hbg, _, _⟩
          · simp [Value.ownBlock] at ej
          · obtain rfl : g = j := by simpa [Value.ownBlock] using ej
            exact hbg)
        clear hown' hgrow hrow hB hck
        go_wp2
        go_roundw
        case rel => exact ⟨k + 1, by omega, by go_num, all_take_snoc zs k hlt H1.out (by rw [← HC.out]; exact HS.out), R.out, hB1⟩
        case measure => simp [intOf]; omega
      | false =>
        have HS : Hid (scal c = false) := hsc
        clear hsc
        go_wp2_with fail
        refine (isScalar_any _ _).mono ?_
        rw [HS.out]
        rintro e w' ⟨rfl, rfl⟩
        go_wp2
        go_ret2
        exact ⟨⟨_, _, rfl, .inr ⟨all_false zs k hlt (by rw [← HC.out]; exact HS.out), rfl, rfl⟩⟩, hB⟩
    · have hkk : k = zs.length := by omega
      rw [hkk, List.take_length] at hall hrow
      obtain ⟨t, hcv, ht⟩ := conv_string wr w.heap.size _ _ (encs zs) rfl (encs_bytes _ (all_bd hall)) hrow
      have H1 : Hid (zs.all scal = true) := hall
      have HT : Hid (bn t = encs zs) := ht
      clear hall ht hkk
      go_wp2
      go_ret2
      exact ⟨⟨_, _, rfl, .inl ⟨H1.out, rfl, HT.out⟩⟩, hB⟩

set_option maxRecDepth 100000 in
set_option maxHeartbeats 1000000 in
theorem encode_none (a : Option Addr) (cap : Nat) (w : World) :
    Calls Try.prog 16 #[.slice a 0 cap] w fun e W' => (∃ t r, e = .returned (.tuple #[.string t, .int .i64 r]) ∧ encR [] t r) ∧ Below w.heap.size w W' := by
  obtain ⟨t, hcv, ht⟩ := conv_string w w.heap.size (.slice none 0 0) 0 [] rfl (fun b hb => by cases hb) (World.ownsRow_nil _ _ _ _)
  have HT : Hid (bn t = encs []) := ht
  clear ht
  go_enter Try.func16, Try.ntmps16
  go_wp2_with fail
  refine wp_loop_rounds 1 ?_
  rw [rounds_succ]
  go_wp2
  go_ret2
  exact ⟨⟨_, _, rfl, .inl ⟨rfl, rfl, HT.out⟩⟩, Below.refl _ _⟩

/-- utf.Encode, whatever numbers its slice leads to. -/
theorem encode_any (v : Value) (zs : List Int) (hlen : zs.length ≤ 17179869184) (w : World) (hv : IntsAt w v zs) :
    Calls Try.prog 16 #[v] w fun e W' => (∃ t r, e = .returned (.tuple #[.string t, .int .i64 r]) ∧ encR zs t r) ∧ Below w.heap.size w W' := by
  rcases hv with ⟨rfl, a, cap, rfl⟩ | ⟨hp, b, off, cap, rfl, hc⟩
  · exact encode_none a cap w
  · exact encode_some b off cap zs hlen w hp hc
end Go.Proofs.Ytpjbiapgkbooaaa.U
