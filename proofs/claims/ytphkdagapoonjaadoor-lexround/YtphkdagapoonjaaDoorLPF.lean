/- strconv.ParseUint at base 16 of 31 bits; lex.scalar. (Stage 15.) -/
import Derived.Test.YtphkdagapoonjaaDoorLPE
namespace Go.Proofs.YtphkdagapoonjaaDoor.Lx
open Go.RowKit
open Go.Proofs.YtphkdagapoonjaaDoor.F (bn bn_length bn_append bn_inj bn_get byte_bd hid bn_extract isEmpty_false isEmpty_true str_eq same_eq)
open Go.Proofs.YtphkdagapoonjaaDoor.U (nx enc encs scal val Bytes)
set_option linter.unusedVariables false

theorem toErr_any (t : ByteArray) (hs : t.size ≤ 1000000000) (k : Int) (hk : k = 1 ∨ k = 2) (w : World) (G : Gl w) : Calls Tryd.prog 82 #[.string ⟨#[80, 97, 114, 115, 101, 85, 105, 110, 116]⟩, .string t, .int .i64 16, .int .i64 31, .iface 119 (.int .i64 k)] w fun e w' => (∃ T p, e = .returned (.iface T p)) ∧ Below w.heap.size w w' := by
  obtain ⟨a, ha, ha2⟩ := G.esyn
  obtain ⟨b, hb, hb2⟩ := G.eran
  rcases hk with rfl | rfl
  · refine Calls.mono (show Calls Tryd.prog 82 #[.string ⟨#[80, 97, 114, 115, 101, 85, 105, 110, 116]⟩, .string t, .int .i64 16, .int .i64 31, .iface 119 (.int .i64 1)] w _ from Any.strconv_toError_range Tryd.lC245 _ t 16 31 b w (by omega) hb hb2) ?_
    rintro e w' ⟨N, rfl, _, _, h⟩
    exact ⟨⟨_, _, rfl⟩, h⟩
  · refine Calls.mono (show Calls Tryd.prog 82 #[.string ⟨#[80, 97, 114, 115, 101, 85, 105, 110, 116]⟩, .string t, .int .i64 16, .int .i64 31, .iface 119 (.int .i64 2)] w _ from Any.strconv_toError_syntax Tryd.lC245 _ t 16 31 a w (by omega) ha ha2) ?_
    rintro e w' ⟨N, rfl, _, _, h⟩
    exact ⟨⟨_, _, rfl⟩, h⟩
def PuR (l : List Int) (e : Ending) : Prop :=
  (l ≠ [] ∧ AllD l ∧ hv l ≤ top31 ∧ 0 ≤ hv l ∧ e = .returned (.tuple #[.int .u64 (hv l), .nilIface])) ∨
  ((l = [] ∨ ¬ AllD l ∨ top31 < hv l) ∧ ∃ x T p, 0 ≤ x ∧ x ≤ 2147483647 ∧ e = .returned (.tuple #[.int .u64 x, .iface T p]))
set_option maxRecDepth 100000 in
set_option maxHeartbeats 4000000 in
theorem pu_any (t : ByteArray) (hs : t.size ≤ 1000000) (w : World) (G : Gl w) : Calls Tryd.prog 70 #[.string t, .int .i64 16, .int .i64 31] w fun e W' => PuR (bn t) e ∧ Below w.heap.size w W' := by
  have HI : Hid (Calls Tryd.prog 81 #[.string t, .int .i64 16, .int .i64 31] w fun e w' => ((bn t ≠ [] ∧ AllD (bn t) ∧ hv (bn t) ≤ top31 ∧ 0 ≤ hv (bn t) ∧ e = .returned (.tuple #[.int .u64 (hv (bn t)), .nilIface])) ∨ ((bn t = [] ∨ ¬ AllD (bn t) ∨ top31 < hv (bn t)) ∧ ∃ x k, 0 ≤ x ∧ x ≤ 2147483647 ∧ (k = 1 ∨ k = 2) ∧ e = .returned (.tuple #[.int .u64 x, .iface 119 (.int .i64 k)]))) ∧ Below w.heap.size w w') := by
    by_cases h0 : t.size = 0
    · have : t = ⟨#[]⟩ := bn_inj (by rw [List.eq_nil_of_length_eq_zero (by rw [bn_length]; exact h0 : (bn t).length = 0)]; rfl)
      subst this
      exact (par_empty w).mono (by rintro e w' ⟨rfl, rfl⟩; exact ⟨.inr ⟨.inl rfl, 0, 2, by omega, by omega, .inr rfl, rfl⟩, Below.refl _ _⟩)
    · have hne : bn t ≠ [] := fun e => h0 (by rw [← bn_length, e]; rfl)
      refine (par_some t h0 hs w).mono ?_
      rintro e w' ⟨⟨h1, h2, h3, rfl⟩ | ⟨h1, rfl⟩ | ⟨h1, rfl⟩, B⟩
      · exact ⟨.inl ⟨hne, h1, h2, h3, rfl⟩, B⟩
      · exact ⟨.inr ⟨.inr (.inl h1), 0, 2, by omega, by omega, .inr rfl, rfl⟩, B⟩
      · exact ⟨.inr ⟨.inr h1, _, 1, by omega, by omega, .inl rfl, rfl⟩, B⟩
  have HG := hid (fun W (h : Below w.heap.size w W) => G.below h)
  clear G
  go_enter Tryd.func70, Tryd.ntmps70
  go_wp2_with fail
  refine HI.out.mono ?_
  rintro e w1 ⟨⟨h1, h2, h3, h4, rfl⟩ | ⟨h1, x, k, h2, h3, h4, rfl⟩, B⟩
  · have HQ := hid (And.intro h1 (And.intro h2 (And.intro h3 h4)))
    clear h1 h2 h3 h4
    go_wp2
    go_ret2
    exact ⟨.inl ⟨HQ.out.1, HQ.out.2.1, HQ.out.2.2.1, HQ.out.2.2.2, rfl⟩, B⟩
  · have HTE := hid (toErr_any t (by omega) k h4 w1 (HG.out w1 B))
    have HQ := hid h1
    clear h1 h4
    go_wp2_with fail
    refine HTE.out.mono ?_
    rintro e w2 ⟨⟨T, p, rfl⟩, hb2⟩
    have hb3 : Below w.heap.size w w2 := B.trans (hb2.mono B.size)
    go_wp2
    go_ret2
    exact ⟨.inr ⟨HQ.out, x, T, p, h2, h3, rfl⟩, hb3⟩
theorem hv_six {l : List Int} (h : AllD l) (hl : l.length ≤ 6) : hv l ≤ top31 := by
  have key : ∀ (l : List Int) (a : Int), AllD l → 0 ≤ a → l.foldl (fun n c => 16 * n + dg c) a < (a + 1) * 16 ^ l.length := by
    intro l
    induction l with
    | nil => intro a _ _; simp; omega
    | cons c l ih =>
      intro a hd h0
      have hc : 0 ≤ dg c := of_decide_eq_true (hd c (by simp))
      have hc2 : dg c ≤ 15 := by unfold dg; (repeat' split) <;> omega
      have := ih (16 * a + dg c) (fun x hx => hd x (by simp [hx])) (by omega)
      rw [List.foldl_cons, List.length_cons, Int.pow_succ]
      refine Int.lt_of_lt_of_le this ?_
      have e : (a + 1) * (16 ^ l.length * 16) = (16 * a + 16) * 16 ^ l.length := by
        rw [Int.mul_comm (16 ^ l.length) 16, ← Int.mul_assoc]; congr 1; omega
      rw [e]
      exact Int.mul_le_mul_of_nonneg_right (by omega) (Int.le_of_lt (Int.pow_pos (by decide)))
  have := key l 0 h (by omega)
  have h2 : (16 : Int) ^ l.length ≤ 16 ^ 6 := by
    have : (16 : Nat) ^ l.length ≤ 16 ^ 6 := Nat.pow_le_pow_right (by decide) hl
    exact_mod_cast this
  unfold hv top31
  have h3 : (16 : Int) ^ 6 = 16777216 := by decide
  omega
/-- What scalar answers. -/
def okD (l : List Int) : Prop := l ≠ [] ∧ AllD l ∧ l.length ≤ 6 ∧ scal (hv l) = true
def SclR (l : List Int) (e : Ending) : Prop := (okD l ∧ e = .returned (.tuple #[.int .i32 (hv l), .bool true])) ∨ (¬ okD l ∧ e = .returned (.tuple #[.int .i32 0, .bool false]))
theorem vrune_any (r : Int) (w : World) : Calls Tryd.prog 71 #[.int .i32 r] w fun e w' => e = .returned (.bool (scal r)) ∧ w' = w := by
  refine Calls.mono (show Calls Tryd.prog 71 #[.int .i32 r] w _ from Any.utf8_ValidRune Tryd.l119 r w) ?_
  rintro e w' ⟨rfl, rfl⟩
  refine ⟨?_, rfl⟩
  congr 2
  unfold Lib.validRune scal
  rw [Bool.eq_iff_iff]
  simp only [decide_eq_true_eq]
  omega
set_option maxRecDepth 100000 in
set_option maxHeartbeats 4000000 in
theorem scalar_any (t : ByteArray) (hs : t.size ≤ 1000000) (w : World) (G : Gl w) : Calls Tryd.prog 53 #[.string t] w fun e W' => SclR (bn t) e ∧ Below w.heap.size w W' := by
  have HP := hid (pu_any t hs w G)
  have HL := hid (bn_length t)
  clear G
  go_enter Tryd.func53, Tryd.ntmps53
  go_wp2_with fail
  refine HP.out.mono ?_
  rintro e w1 ⟨⟨h1, h2, h3, h4, rfl⟩ | ⟨h1, x, T, p, x0, x1, rfl⟩, B⟩
  · obtain ⟨H, hH⟩ : ∃ H, hv (bn t) = H := ⟨_, rfl⟩
    have HH := hid hH
    rw [hH] at h3 h4 ⊢
    have hwr : IntKind.i32.wrap H = H := by unfold top31 at h3; rw [IntKind.wrap_i32]; omega
    have HQ := hid (And.intro h1 h2)
    have HV := hid (fun W => vrune_any H W)
    clear h1 h2 hH HP
    unfold top31 at h3
    by_cases h6 : t.size ≤ 6
    · cases hsc : scal H with
      | true =>
        rw [hsc] at HV
        have HO : Hid (okD (bn t)) := hid ⟨HQ.out.1, HQ.out.2, by rw [HL.out]; exact h6, by rw [HH.out]; exact hsc⟩
        clear hsc
        go_wp2_with (go_at_call 71; refine (HV.out _).mono ?_; rintro e w2 ⟨rfl, hw2⟩; obtain rfl := hw2.symm)
        go_ret2
        exact ⟨.inl ⟨HO.out, by rw [HH.out] <;> rfl⟩, B⟩
      | false =>
        rw [hsc] at HV
        have HO : Hid (¬ okD (bn t)) := hid (fun h => by have := h.2.2.2; rw [HH.out, hsc] at this; cases this)
        clear hsc
        go_wp2_with (go_at_call 71; refine (HV.out _).mono ?_; rintro e w2 ⟨rfl, hw2⟩; obtain rfl := hw2.symm)
        go_ret2
        exact ⟨.inr ⟨HO.out, rfl⟩, B⟩
    · have HO : Hid (¬ okD (bn t)) := hid (fun h => by have := h.2.2.1; rw [HL.out] at this; omega)
      go_wp2
      go_ret2
      exact ⟨.inr ⟨HO.out, rfl⟩, B⟩
  · have HO : Hid (¬ okD (bn t)) := hid (fun h => by
      rcases h1 with h1 | h1 | h1
      · exact h.1 h1
      · exact h1 h.2.1
      · have := hv_six h.2.1 h.2.2.1
        unfold top31 at *
        omega)
    clear h1 HP
    go_wp2
    go_ret2
    exact ⟨.inr ⟨HO.out, rfl⟩, B⟩
end Go.Proofs.YtphkdagapoonjaaDoor.Lx
