/- six.number; strings.SplitN by the shelf, at a byte; six.pair. (Stage 11.) -/
import Derived.Test.YtpkmpebhlolhaaaDoorWC
import Derived.Shelf.Strings.Split
namespace Go.Proofs
open Go.Shelf Go.RowKit
shelf_lay Lays.n147 Nm 147 at Tryd as Tryd.laysSplX
end Go.Proofs
namespace Go.Proofs.YtpkmpebhlolhaaaDoor.X
open Go.RowKit
open Go.Proofs.YtpkmpebhlolhaaaDoor.F (hx hx_bd vl vl_snoc bn bn_length bn_append bn_inj bn_get byte_bd hid bn_extract isEmpty_false isEmpty_true str_eq same_eq)
set_option linter.unusedVariables false

/-! ### A number from 0 to 255 -/
def nn (l : List UInt8) : List Int := l.map fun c => (c.toNat : Int)
theorem nn_bn (t : ByteArray) : nn t.data.toList = bn t := rfl
theorem hx_ten {c : Int} (h : 48 ≤ c ∧ c ≤ 57) : hx c = c - 48 := by unfold hx; rw [if_pos h]
theorem parM : ∀ (l : List UInt8) (acc : Nat), acc ≤ 255 → ((nn l).all ten = true ∧ (nn l).foldl (fun n c => n * 10 + (hx c).toNat) acc ≤ 255 ∧ Lib.parseUintM 255 acc l = .ok ((nn l).foldl (fun n c => n * 10 + (hx c).toNat) acc)) ∨ (¬ ((nn l).all ten = true ∧ (nn l).foldl (fun n c => n * 10 + (hx c).toNat) acc ≤ 255) ∧ ∀ u, Lib.parseUintM 255 acc l ≠ .ok u)
  | [], acc, h => .inl ⟨rfl, h, rfl⟩
  | c :: l, acc, h => by
    have e0 : nn (c :: l) = (c.toNat : Int) :: nn l := rfl
    rw [e0, List.all_cons, List.foldl_cons]
    by_cases hd : 48 ≤ c.toNat ∧ c.toNat ≤ 57
    · have hx1 : (hx (c.toNat : Int)).toNat = c.toNat - 48 := by rw [hx_ten (by omega)]; omega
      have ht : ten (c.toNat : Int) = true := by unfold ten; exact decide_eq_true (by omega)
      rw [hx1, ht, Bool.true_and]
      have hcut : ¬ 1844674407370955162 ≤ acc := by omega
      by_cases hov : 255 < acc * 10 + (c.toNat - 48)
      · right
        have hp : Lib.parseUintM 255 acc (c :: l) = .range := by rw [Lib.parseUintM, if_pos hd, if_neg hcut, if_pos hov]
        refine ⟨fun hh => ?_, fun u e => by rw [hp] at e; cases e⟩
        have mono : ∀ (m : List Int) (x : Nat), 255 < x → 255 < m.foldl (fun n c => n * 10 + (hx c).toNat) x := by
          intro m
          induction m with
          | nil => intro x h; exact h
          | cons d m ih => intro x h; rw [List.foldl_cons]; exact ih _ (by omega)
        have := mono (nn l) _ hov
        omega
      · have hp : Lib.parseUintM 255 acc (c :: l) = Lib.parseUintM 255 (acc * 10 + (c.toNat - 48)) l := by rw [Lib.parseUintM, if_pos hd, if_neg hcut, if_neg hov]
        rw [hp]
        exact parM l _ (by omega)
    · right
      have ht : ten (c.toNat : Int) = false := by unfold ten; exact decide_eq_false (by omega)
      rw [ht]
      exact ⟨by simp, fun u e => by rw [Lib.parseUintM, if_neg hd] at e; cases e⟩
/-- Of three digits at most, if no nought stands ahead. -/
theorem len_ten {l : List Int} (h : l.all ten = true) (hv : vl 10 l ≤ 255) (h0 : ¬ (1 < l.length ∧ l[0]?.getD 0 = 48)) : l.length ≤ 3 := by
  have grow : ∀ (m : List Int) (x : Nat), x * 10 ^ m.length ≤ m.foldl (fun n c => n * 10 + (hx c).toNat) x := by
    intro m
    induction m with
    | nil => intro x; simp
    | cons d m ih =>
      intro x
      rw [List.foldl_cons, List.length_cons]
      refine Nat.le_trans ?_ (ih _)
      rw [Nat.pow_succ, Nat.mul_comm (10 ^ m.length), ← Nat.mul_assoc]
      exact Nat.mul_le_mul_right _ (by omega)
  cases l with
  | nil => simp
  | cons c m =>
    by_cases hl : (c :: m).length ≤ 3
    · exact hl
    · exfalso
      rw [List.all_cons, Bool.and_eq_true] at h
      have hc : 48 ≤ c ∧ c ≤ 57 := of_decide_eq_true h.1
      have h48 : c ≠ 48 := fun e => h0 ⟨by omega, by simpa using e⟩
      unfold vl at hv
      rw [List.foldl_cons, hx_ten hc] at hv
      have := grow m (0 * 10 + (c - 48).toNat)
      have hp : 10 ^ 3 ≤ 10 ^ m.length := Nat.pow_le_pow_right (by decide) (by simp at hl; omega)
      have h1 : 1 * 10 ^ m.length ≤ (0 * 10 + (c - 48).toNat) * 10 ^ m.length := Nat.mul_le_mul_right _ (by omega)
      omega
theorem dn_cases (t : ByteArray) (h0 : ¬ (1 < (bn t).length ∧ (bn t)[0]?.getD 0 = 48)) : (∃ v, dn (bn t) = some v ∧ v ≤ 255 ∧ Lib.parseUintB 8 t.data.toList = .ok v) ∨ (dn (bn t) = none ∧ ∀ u, Lib.parseUintB 8 t.data.toList ≠ .ok u) := by
  have hl := bn_length t
  by_cases he : t.data.toList = []
  · right
    have hb : bn t = [] := by unfold bn; rw [he]; rfl
    refine ⟨by rw [hb]; rfl, fun u e => by unfold Lib.parseUintB at e; rw [if_pos he] at e; cases e⟩
  · have hne : (bn t).length ≠ 0 := fun e => he (by
      have := List.eq_nil_of_length_eq_zero e
      unfold bn at this
      exact List.map_eq_nil_iff.1 this)
    have hB : Lib.parseUintB 8 t.data.toList = Lib.parseUintM 255 0 t.data.toList := by unfold Lib.parseUintB; rw [if_neg he]
    rw [hB]
    rcases parM t.data.toList 0 (by omega) with ⟨a, b, c⟩ | ⟨a, b⟩
    · left
      have b' : vl 10 (bn t) ≤ 255 := b
      refine ⟨vl 10 (bn t), ?_, b', c⟩
      unfold dn
      rw [if_pos ⟨by omega, len_ten a b' h0, h0, a, b'⟩]
    · right
      refine ⟨?_, b⟩
      unfold dn
      rw [if_neg (fun hh => a ⟨hh.2.2.2.1, hh.2.2.2.2⟩)]
theorem pu10_ok (t : ByteArray) (hs : t.size ≤ 1000000000) (v : Nat) (h : Lib.parseUintB 8 t.data.toList = .ok v) (w : World) : Calls Tryd.prog 39 #[.string t, .int .i64 10, .int .i64 8] w fun e W' => e = .returned (.tuple #[.int .u64 v, .nilIface]) ∧ Below w.heap.size w W' := by
  have hq := Any.strconv_ParseUint_10_at8_ok Tryd.laysPu t (by omega) v h w
  refine Calls.mono (show Calls Tryd.prog 39 #[.string t, .int .i64 10, .int .i64 8] w _ from hq) ?_
  rintro e W' ⟨rfl, hW⟩
  refine ⟨rfl, ?_⟩
  rcases hW with rfl | rfl
  · exact Below.refl _ _
  · exact ⟨rfl, rfl, rfl, by rw [Lib.bytesWorld_size]; omega, fun k hk => Lib.bytesWorld_at_old w _ t k hk⟩
set_option maxRecDepth 100000 in
set_option maxHeartbeats 4000000 in
theorem pu10_no (t : ByteArray) (hs : t.size ≤ 1000000000) (h : ∀ u, Lib.parseUintB 8 t.data.toList ≠ .ok u) (w : World) (hE : Er w) : Calls Tryd.prog 39 #[.string t, .int .i64 10, .int .i64 8] w fun e W' => (∃ (x : Nat) (T : TypeId) (p : Value), x ≤ 255 ∧ e = .returned (.tuple #[.int .u64 x, .iface T p])) ∧ Below w.heap.size w W' := by
  obtain ⟨⟨ev, h1, h2⟩, ⟨ev', h3, h4⟩⟩ := hE
  cases hx : Lib.parseUintB 8 t.data.toList
  · exact absurd hx (h _)
  · have hI : Calls Tryd.prog 52 #[.string t, .int .i64 10, .int .i64 8] w fun e w' => e = .returned (.tuple #[.int .u64 0, .iface 96 (.int .i64 2)]) ∧ Below w.heap.size w w' := by
      have hq := AnyPu.internal_strconv_ParseUint_10_at8 { Tryd.laysPu with } t (by omega) w
      rw [hx] at hq
      refine Calls.mono (show Calls Tryd.prog 52 #[.string t, .int .i64 10, .int .i64 8] w _ from hq) ?_
      rintro e W' ⟨rfl, hW⟩
      refine ⟨rfl, ?_⟩
      rcases hW with rfl | rfl
      · exact Below.refl _ _
      · exact ⟨rfl, rfl, rfl, by rw [Lib.bytesWorld_size]; omega, fun k hk => Lib.bytesWorld_at_old w _ t k hk⟩
    have HER : Hid (Er w) := ⟨⟨ev, h1, h2⟩, ⟨ev', h3, h4⟩⟩
    clear hx h h1 h2 h3 h4
    go_enter Tryd.func39, Tryd.ntmps39
    go_wp2_with fail
    refine hI.mono ?_
    rintro e w1 ⟨rfl, hb⟩
    go_wp2_with fail
    refine (toErr_any t hs 10 8 w1 (HER.out.below hb)).mono ?_
    rintro e w2 ⟨⟨T, p, rfl⟩, hb2⟩
    have hb3 : Below w.heap.size w w2 := hb.trans (hb2.mono hb.size)
    go_wp2
    go_ret2
    exact ⟨⟨0, T, p, by omega, rfl⟩, hb3⟩
  · have hq := Any.strconv_ParseUint_10_at8_range Tryd.laysPu t (by omega) hx ev' w h3 h4
    refine Calls.mono (show Calls Tryd.prog 39 #[.string t, .int .i64 10, .int .i64 8] w _ from hq) ?_
    rintro e W' ⟨N, rfl, _, _, hb⟩
    exact ⟨⟨255, _, _, by omega, rfl⟩, hb⟩
/-- What six.number answers. -/
def NumR (o : Option Nat) (e : Ending) : Prop := (∃ v : Nat, o = some v ∧ v ≤ 255 ∧ e = .returned (.tuple #[.int .u32 v, .bool true])) ∨ (o = none ∧ ∃ x : Nat, e = .returned (.tuple #[.int .u32 x, .bool false]))
set_option maxRecDepth 100000 in
set_option maxHeartbeats 4000000 in
theorem number_core (t : ByteArray) (hs : t.size ≤ 1000000000) (h0 : ¬ (1 < (bn t).length ∧ (bn t)[0]?.getD 0 = 48)) (w : World) (hE : Er w) :
    Calls Tryd.prog 36 #[.string t] w fun e W' => NumR (dn (bn t)) e ∧ Below w.heap.size w W' := by
  have hok : ∀ v : Nat, v ≤ 255 → dn (bn t) = some v → NumR (dn (bn t)) (.returned (.tuple #[.int .u32 v, .bool true])) := fun v h1 h2 => .inl ⟨v, h2, h1, rfl⟩
  have hno : dn (bn t) = none → ∀ x : Nat, NumR (dn (bn t)) (.returned (.tuple #[.int .u32 x, .bool false])) := fun h x => .inr ⟨h, x, rfl⟩
  obtain ⟨o, ho⟩ : ∃ o, dn (bn t) = o := ⟨_, rfl⟩
  rw [ho] at hok hno ⊢
  have hbl := bn_length t
  have hcase : t.size ≤ 1 ∨ (1 < t.size ∧ (bn t)[0]?.getD 0 ≠ 48) := by
    by_cases h : t.size ≤ 1
    · exact .inl h
    · exact .inr ⟨by omega, fun e => h0 ⟨by omega, e⟩⟩
  rcases dn_cases t h0 with ⟨v, hd, hv, hp⟩ | ⟨hd, hp⟩ <;> rw [ho] at hd <;> clear ho
  · have HPU := hid (pu10_ok t hs v hp w)
    have HOK := hid (hok v hv hd)
    have hwr : IntKind.u32.wrap (v : Int) = (v : Int) := by simp [IntKind.wrap, IntKind.bits, IntKind.signed]; omega
    clear hok hno hp hd h0 hbl
    rcases hcase with hc | ⟨hc, hc2⟩
    · go_enter Tryd.func36, Tryd.ntmps36
      go_wp2_with fail
      refine HPU.out.mono ?_
      rintro e w1 ⟨rfl, hb⟩
      go_wp2_with fail
      go_quiet (fail)
      go_wp2
      go_ret2
      exact ⟨HOK.out, hb.os, hb.tape, hb.output, hb.size, hb.block⟩
    · rw [bn_get t 0 (by omega)] at hc2
      have hq : (((t[0].toNat : Nat) : Int) == 48) = false := by simpa using hc2
      clear hc2
      go_enter Tryd.func36, Tryd.ntmps36
      go_wp2_with fail
      refine HPU.out.mono ?_
      rintro e w1 ⟨rfl, hb⟩
      go_wp2_with fail
      go_quiet (fail)
      go_wp2
      go_ret2
      exact ⟨HOK.out, hb.os, hb.tape, hb.output, hb.size, hb.block⟩
  · have HPU := hid (pu10_no t hs hp w hE)
    have HNO := hid (hno hd)
    clear hok hno hp hd h0 hbl
    rcases hcase with hc | ⟨hc, hc2⟩
    · go_enter Tryd.func36, Tryd.ntmps36
      go_wp2_with fail
      refine HPU.out.mono ?_
      rintro e w1 ⟨⟨x, T, p, hx, rfl⟩, hb⟩
      have hwr : IntKind.u32.wrap (x : Int) = (x : Int) := by simp [IntKind.wrap, IntKind.bits, IntKind.signed]; omega
      go_wp2_with fail
      go_quiet (fail)
      go_wp2
      go_ret2
      exact ⟨HNO.out x, hb.os, hb.tape, hb.output, hb.size, hb.block⟩
    · rw [bn_get t 0 (by omega)] at hc2
      have hq : (((t[0].toNat : Nat) : Int) == 48) = false := by simpa using hc2
      clear hc2
      go_enter Tryd.func36, Tryd.ntmps36
      go_wp2_with fail
      refine HPU.out.mono ?_
      rintro e w1 ⟨⟨x, T, p, hx, rfl⟩, hb⟩
      have hwr : IntKind.u32.wrap (x : Int) = (x : Int) := by simp [IntKind.wrap, IntKind.bits, IntKind.signed]; omega
      go_wp2_with fail
      go_quiet (fail)
      go_wp2
      go_ret2
      exact ⟨HNO.out x, hb.os, hb.tape, hb.output, hb.size, hb.block⟩
set_option maxRecDepth 100000 in
set_option maxHeartbeats 4000000 in
theorem number_any (t : ByteArray) (hs : t.size ≤ 1000000000) (w : World) (hE : Er w) :
    Calls Tryd.prog 36 #[.string t] w fun e W' => NumR (dn (bn t)) e ∧ Below w.heap.size w W' := by
  by_cases h0 : 1 < (bn t).length ∧ (bn t)[0]?.getD 0 = 48
  · have hd : dn (bn t) = none := by unfold dn; rw [if_neg (fun hh => hh.2.2.1 h0)]
    have hbl := bn_length t
    obtain ⟨h1, h2⟩ := h0
    rw [hbl] at h1
    have hpos : 0 < t.size := by omega
    rw [bn_get t 0 hpos] at h2
    have hq : (((t[0].toNat : Nat) : Int) == 48) = true := by simpa using h2
    have HR := hid (show NumR (dn (bn t)) (.returned (.tuple #[.int .u32 (0 : Nat), .bool false])) from .inr ⟨hd, 0, rfl⟩)
    clear h2 hd hbl
    obtain ⟨o, ho⟩ : ∃ o, dn (bn t) = o := ⟨_, rfl⟩
    rw [ho] at HR ⊢
    clear ho
    go_enter Tryd.func36, Tryd.ntmps36
    go_wp2
    go_ret2
    exact ⟨HR.out, Below.refl _ _⟩
  · exact number_core t hs h0 w hE
end Go.Proofs.YtpkmpebhlolhaaaDoor.X
