/- strconv.ParseUint at base 16; six.piece, six.number. (Stage 11.) -/
import Derived.Test.YtpkmpebhlolhaaaDoorWB
import Derived.RegionTactic
import Derived.Lib.IfaceEq
import Derived.BigQuiet
namespace Go.Proofs.YtpkmpebhlolhaaaDoor.X
open Go.RowKit
open Go.Proofs.YtpkmpebhlolhaaaDoor.F (hx hx_bd vl vl_snoc bn bn_length bn_append bn_inj bn_get byte_bd hid bn_extract isEmpty_false isEmpty_true str_eq same_eq)
set_option linter.unusedVariables false

def Face (ev : Value) : Prop := ev = .nilIface ∨ ∃ te pe, ev = .iface te pe
/-- The two errors of strconv hold something. -/
def Er (w : World) : Prop := (∃ ev, w.cell? ⟨2, 0, none⟩ = some ev ∧ Face ev) ∧ (∃ ev, w.cell? ⟨3, 0, none⟩ = some ev ∧ Face ev)
theorem Er.below {w w' : World} (h : Er w) (hb : Below w.heap.size w w') : Er w' := by
  obtain ⟨⟨a, h1, h2⟩, ⟨b, h3, h4⟩⟩ := h
  exact ⟨⟨a, (hb.cell (p := ⟨2, 0, none⟩) (Lib.lt_of_cell h1)).trans h1, h2⟩, ⟨b, (hb.cell (p := ⟨3, 0, none⟩) (Lib.lt_of_cell h3)).trans h3, h4⟩⟩
set_option maxHeartbeats 4000000 in
set_option maxRecDepth 100000 in
theorem toErr_any (t : ByteArray) (hs : t.size ≤ 1000000000) (b c : Int) (w : World) (hE : Er w) : Calls Tryd.prog 53 #[.string ⟨#[80, 97, 114, 115, 101, 85, 105, 110, 116]⟩, .string t, .int .i64 b, .int .i64 c, .iface 96 (.int .i64 2)] w fun e w' => (∃ T p, e = .returned (.iface T p)) ∧ Below w.heap.size w w' := by
  obtain ⟨⟨ev, h1, h2⟩, _⟩ := hE
  have heq : ∀ W, (binOp .eql 72 (.iface 96 (.int .i64 2)) (.iface 96 (.int .i64 2))).run Tryd.prog W = .ok (.bool true) W := fun W => Lib.run_eql_iface_int W 2 2 Tryd.underlying72 (by kernel_rfl) Tryd.underlying96
  have HSX : Hid (Calls Tryd.prog 66 #[.string ⟨#[80, 97, 114, 115, 101, 85, 105, 110, 116]⟩, .string t] w fun e w' => (∃ N, e = .returned (.pointer (some ⟨N, 0, none⟩))) ∧ Below w.heap.size w w') := by
    have hq := AnyPu.strconv_syntaxError { Tryd.laysPu with } ⟨#[80, 97, 114, 115, 101, 85, 105, 110, 116]⟩ t ev w (by omega) h1 h2
    refine Calls.mono (show Calls Tryd.prog 66 #[.string ⟨#[80, 97, 114, 115, 101, 85, 105, 110, 116]⟩, .string t] w _ from hq) ?_
    rintro e w' ⟨N, rfl, _, _, h⟩
    exact ⟨⟨N, rfl⟩, h⟩
  clear h1 h2
  go_enter Tryd.func53, Tryd.ntmps53
  go_wp2_with fail
  refine HSX.out.mono ?_
  rintro e w2 ⟨⟨N, rfl⟩, h3⟩
  go_wp2
  go_ret
  exact ⟨⟨_, _, rfl⟩, h3⟩
theorem fold_lt16 : ∀ (l : List Int) (x : Nat), l.foldl (fun n c => n * 16 + (hx c).toNat) x < (x + 1) * 16 ^ l.length
  | [], x => by simp
  | c :: l, x => by
    have ih := fold_lt16 l (x * 16 + (hx c).toNat)
    have hc := hx_bd c
    have h1 : (x * 16 + (hx c).toNat + 1) * 16 ^ l.length ≤ ((x + 1) * 16) * 16 ^ l.length := Nat.mul_le_mul_right _ (by omega)
    have e : (x + 1) * 16 ^ (c :: l).length = ((x + 1) * 16) * 16 ^ l.length := by rw [List.length_cons, Nat.pow_succ, Nat.mul_assoc, Nat.mul_comm 16]
    rw [List.foldl_cons, e]
    omega
theorem vl_lt16 (l : List Int) : vl 16 l < 16 ^ l.length := by
  have := fold_lt16 l 0
  unfold vl
  omega
theorem pc_uT {l : List Int} {v : Nat} (h : pc l = some v) : uT l = .tuple #[.int .u64 v, .nilIface] ∧ l ≠ [] ∧ l.length ≤ 4 ∧ v < 65536 := by
  unfold pc at h
  split at h
  · rename_i hh
    cases h
    refine ⟨by unfold uT; rw [if_pos hh.2.2], fun e => by rw [e] at hh; simp at hh, hh.2.1, ?_⟩
    have hb := vl_lt16
    have h2 := hb l
    have h3 : (16 : Nat) ^ l.length ≤ 16 ^ 4 := Nat.pow_le_pow_right (by decide) hh.2.1
    have h4 : (16 : Nat) ^ 4 = 65536 := rfl
    omega
  · cases h
theorem pc_no {l : List Int} (h : pc l = none) : l = [] ∨ 4 < l.length ∨ uT l = .tuple #[.int .u64 0, .iface 96 (.int .i64 2)] := by
  unfold pc at h
  split at h
  · cases h
  · rename_i hh
    by_cases h1 : l = []
    · exact .inl h1
    · by_cases h2 : 4 < l.length
      · exact .inr (.inl h2)
      · right; right
        unfold uT
        rw [if_neg]
        intro h3
        have := List.length_pos_iff.2 h1
        exact hh ⟨by omega, by omega, h3⟩
set_option maxRecDepth 100000 in
set_option maxHeartbeats 4000000 in
theorem pu16_is (t : ByteArray) (v : Nat) (h : pc (bn t) = some v) (w : World) : Calls Tryd.prog 39 #[.string t, .int .i64 16, .int .i64 16] w fun e W' => e = .returned (.tuple #[.int .u64 v, .nilIface]) ∧ Below w.heap.size w W' := by
  obtain ⟨h1, h2, h3, _⟩ := pc_uT h
  have hl := bn_length t
  have hne : t.size ≠ 0 := fun e => h2 (List.eq_nil_of_length_eq_zero (by omega))
  have hI := par16_any t hne (by omega) w
  rw [h1] at hI
  clear h h1 h2 h3 hl
  go_enter Tryd.func39, Tryd.ntmps39
  go_wp2_with fail
  refine hI.mono ?_
  rintro e w1 ⟨rfl, hb⟩
  go_wp2
  go_ret2
  exact ⟨rfl, hb⟩
set_option maxRecDepth 100000 in
set_option maxHeartbeats 4000000 in
theorem pu16_no (t : ByteArray) (h : pc (bn t) = none) (h4 : t.size ≤ 4) (w : World) (hE : Er w) : Calls Tryd.prog 39 #[.string t, .int .i64 16, .int .i64 16] w fun e W' => (∃ T p, e = .returned (.tuple #[.int .u64 0, .iface T p])) ∧ Below w.heap.size w W' := by
  have hl := bn_length t
  have hI : Calls Tryd.prog 52 #[.string t, .int .i64 16, .int .i64 16] w fun e w' => e = .returned (.tuple #[.int .u64 0, .iface 96 (.int .i64 2)]) ∧ Below w.heap.size w w' := by
    rcases pc_no h with h1 | h1 | h1
    · have : t = ⟨#[]⟩ := bn_inj (by rw [h1]; rfl)
      subst this
      exact (par16_empty w).mono (by rintro e w' ⟨rfl, rfl⟩; exact ⟨rfl, Below.refl _ _⟩)
    · omega
    · by_cases h0 : t.size = 0
      · have : t = ⟨#[]⟩ := bn_inj (by rw [List.eq_nil_of_length_eq_zero (by omega : (bn t).length = 0)]; rfl)
        subst this
        exact (par16_empty w).mono (by rintro e w' ⟨rfl, rfl⟩; exact ⟨rfl, Below.refl _ _⟩)
      · have := par16_any t h0 h4 w
        rwa [h1] at this
  clear h hl
  go_enter Tryd.func39, Tryd.ntmps39
  go_wp2_with fail
  refine hI.mono ?_
  rintro e w1 ⟨rfl, hb⟩
  go_wp2_with fail
  refine (toErr_any t (by omega) 16 16 w1 (hE.below hb)).mono ?_
  rintro e w2 ⟨⟨T, p, rfl⟩, hb2⟩
  have hb3 : Below w.heap.size w w2 := hb.trans (hb2.mono hb.size)
  go_wp2
  go_ret2
  exact ⟨⟨T, p, rfl⟩, hb3⟩
set_option maxRecDepth 100000 in
set_option maxHeartbeats 4000000 in
theorem piece_is (t : ByteArray) (v : Nat) (h : pc (bn t) = some v) (w : World) : Calls Tryd.prog 27 #[.string t] w fun e W' => e = .returned (.tuple #[.int .u16 v, .bool true]) ∧ Below w.heap.size w W' := by
  obtain ⟨_, _, h3, hv⟩ := pc_uT h
  have hl := bn_length t
  have h4 : t.size ≤ 4 := by omega
  have hwr : IntKind.u16.wrap (v : Int) = (v : Int) := by simp [IntKind.wrap, IntKind.bits, IntKind.signed]; omega
  have hI := pu16_is t v h w
  clear h h3 hl
  go_enter Tryd.func27, Tryd.ntmps27
  go_wp2_with fail
  refine hI.mono ?_
  rintro e w1 ⟨rfl, hb⟩
  go_wp2_with fail
  go_quiet (fail)
  go_wp2
  go_ret2
  exact ⟨rfl, ⟨hb.os, hb.tape, hb.output, hb.size, hb.block⟩⟩
set_option maxRecDepth 100000 in
set_option maxHeartbeats 4000000 in
theorem piece_no (t : ByteArray) (h : pc (bn t) = none) (hs : t.size ≤ 1000000000) (w : World) (hE : Er w) : Calls Tryd.prog 27 #[.string t] w fun e W' => e = .returned (.tuple #[.int .u16 0, .bool false]) ∧ Below w.heap.size w W' := by
  by_cases h4 : t.size ≤ 4
  · have hI := pu16_no t h h4 w hE
    clear h
    go_enter Tryd.func27, Tryd.ntmps27
    go_wp2_with fail
    refine hI.mono ?_
    rintro e w1 ⟨⟨T, p, rfl⟩, hb⟩
    go_wp2_with fail
    go_quiet (fail)
    go_wp2
    go_ret2
    exact ⟨rfl, ⟨hb.os, hb.tape, hb.output, hb.size, hb.block⟩⟩
  · clear h
    go_enter Tryd.func27, Tryd.ntmps27
    go_wp2
    go_ret2
    exact ⟨rfl, Below.refl _ _⟩
end Go.Proofs.YtpkmpebhlolhaaaDoor.X
