/- The document's Same. (Stage 15.) -/
import Derived.Test.YtphkdagapoonjaaDoorLRS
import Derived.BigQuiet
import Derived.Deep.QuietTactic
namespace Go.Proofs.YtphkdagapoonjaaDoor.Lx
open Go.RowKit
open Go.Proofs.YtphkdagapoonjaaDoor.F (bn bn_length bn_append bn_inj bn_get byte_bd hid bn_extract isEmpty_false isEmpty_true str_eq same_eq)
open Go.Proofs.YtphkdagapoonjaaDoor.U (nx enc encs scal Bytes)
set_option linter.unusedVariables false

def sj (loose : Bool) (a b : Tb) : Bool := ((a.k : Int) == (b.k : Int)) && (a.x.toList == b.x.toList) && (loose || eqt a b)
def sm (loose : Bool) : List Tb → List Tb → Bool
  | [], [] => true
  | a :: l, b :: m => sj loose a b && sm loose l m
  | _, _ => false
theorem sm_len {loose : Bool} : ∀ {a b : List Tb}, a.length ≠ b.length → sm loose a b = false
  | [], [], h => absurd rfl h
  | [], _ :: _, _ => rfl
  | _ :: _, [], _ => rfl
  | a :: l, b :: m, h => by
    rw [sm, sm_len (a := l) (b := m) (by simpa using h), Bool.and_false]
theorem sm_at {loose : Bool} {a b : List Tb} {i : Nat} (h1 : i < a.length) (h2 : i < b.length) : sm loose (a.drop i) (b.drop i) = (sj loose (a[i]?.getD z4) (b[i]?.getD z4) && sm loose (a.drop (i + 1)) (b.drop (i + 1))) := by
  rw [List.drop_eq_getElem_cons h1, List.drop_eq_getElem_cons h2, sm, List.getElem?_eq_getElem h1, List.getElem?_eq_getElem h2]; rfl
/-- The cells of one token of a row. -/
theorem TokAt.cell {w : World} {a : Option Addr} {n cap : Nat} {l : List Tb} (h : TokAt w (.slice a n cap) l) {i : Nat} (hi : i < l.length) : ∃ b off, a = some ⟨b, off, none⟩ ∧ w.cell? ⟨b, off + i * 4, none⟩ = some (.int .u8 ((l[i]?.getD z4).k : Nat)) ∧ w.cell? ⟨b, off + i * 4 + 1, none⟩ = some (.string (l[i]?.getD z4).x) ∧ w.cell? ⟨b, off + i * 4 + 2, none⟩ = some (.int .i64 (l[i]?.getD z4).n) ∧ w.cell? ⟨b, off + i * 4 + 3, none⟩ = some (.int .i64 (l[i]?.getD z4).a) := by
  obtain ⟨a', cap', e, _, hc⟩ := h
  obtain ⟨rfl, _, _⟩ : a = a' ∧ n = l.length ∧ cap = cap' := by injection e with e1 e2 e3; exact ⟨e1, e2, e3⟩
  obtain ⟨b, off, rfl, hcell⟩ := hc (by omega)
  refine ⟨b, off, rfl, ?_, ?_, ?_, ?_⟩
  · exact hcell i 0 hi (by decide)
  · exact hcell i 1 hi (by decide)
  · exact hcell i 2 hi (by decide)
  · exact hcell i 3 hi (by decide)
theorem TokAt.len {w : World} {a : Option Addr} {n cap : Nat} {l : List Tb} (h : TokAt w (.slice a n cap) l) : n = l.length := by
  obtain ⟨a', cap', e, _⟩ := h
  injection e
theorem stays {w W : World} {p : Addr} {v : Value} (hb : Below w.heap.size w W) (h : w.cell? p = some v) : W.cell? p = some v := by
  refine (hb.cell (p := p) ?_).trans h
  unfold World.cell? at h
  rcases Nat.lt_or_ge p.block w.heap.size with hb | hb
  · exact hb
  · rw [Array.getElem?_eq_none hb] at h; cases h
theorem drewn {B : Nat} {a w : World} (h : Below B a w) (k : Nat) : Below B a (w.drewN k) := h.trans ⟨rfl, rfl, rfl, Nat.le_refl _, fun _ _ => rfl⟩
set_option maxRecDepth 100000 in
set_option maxHeartbeats 8000000 in
theorem rsame_any (a b : Option Addr) (n m ca cb : Nat) (la lb : List Tb) (loose : Bool) (w : World) (ha : TokAt w (.slice a n ca) la) (hb : TokAt w (.slice b m cb) lb) (hn : n ≤ 1000000000) (hm : m ≤ 1000000000) :
    Calls Tryd.prog 9 #[.slice a n ca, .slice b m cb, .bool loose] w fun e W' => e = .returned (.bool (sm loose la lb)) ∧ Below w.heap.size w W' := by
  have hla := ha.len
  have hlb := hb.len
  by_cases hnm : n = m
  rotate_left
  · have q : ((n : Int) != (m : Int)) = true := by simp; omega
    have HE : Hid (sm loose la lb = false) := sm_len (by omega)
    rw [HE.out]
    clear ha hb hla hlb hnm HE
    go_enter Tryd.func9, Tryd.ntmps9
    go_wp2
    go_ret
    exact ⟨rfl, Below.refl _ _⟩
  subst hnm
  have q : ((n : Int) != (n : Int)) = false := by simp
  have HCA := hid (fun i (h : i < la.length) => ha.cell h)
  have HCB := hid (fun i (h : i < lb.length) => hb.cell h)
  have HST := hid (fun i h1 h2 => sm_at (loose := loose) (a := la) (b := lb) (i := i) h1 h2)
  have HEN : Hid (sm loose (la.drop n) (lb.drop n) = true) := by
    show _ = _
    rw [List.drop_eq_nil_of_le (by omega), List.drop_eq_nil_of_le (by omega)]; rfl
  rw [← hla] at HCA HST
  rw [← hlb] at HCB HST
  obtain ⟨R, hR⟩ : ∃ R, sm loose la lb = R := ⟨_, rfl⟩
  rw [hR]
  have H0 : Hid (sm loose (la.drop 0) (lb.drop 0) = R) := hR
  clear hR ha hb hla hlb
  go_enter Tryd.func9, Tryd.ntmps9
  go_wp2_with fail
  go_loopw [7] (fun vi wr => ∃ i : Nat, i ≤ n ∧ vi = .int .i64 (i : Int) ∧ Hid (sm loose (la.drop i) (lb.drop i) = R) ∧ Hid (Below w.heap.size w wr)) (fun vi _ => n - (intOf vi).toNat)
  case atStart => exact ⟨0, Nat.zero_le _, rfl, H0, Below.refl _ _⟩
  case round =>
    obtain ⟨i, hi, rfl, HR, HB⟩ := hrel
    by_cases hlt : i < n
    rotate_left
    · have hltz : ¬ (i : Int) < (n : Int) := by omega
      obtain rfl : i = n := by omega
      have HE := hid (HR.out.symm.trans HEN.out)
      clear HR HEN HCA HCB HST H0
      go_wp2
      go_ret
      exact ⟨by rw [HE.out]; rfl, HB.out⟩
    have hltz : (i : Int) < (n : Int) := by omega
    obtain ⟨ba, oa, rfl, a0, a1, a2, a3⟩ := HCA.out i hlt
    obtain ⟨bb, ob, rfl, b0, b1, b2, b3⟩ := HCB.out i hlt
    replace a0 := stays HB.out a0
    replace a1 := stays HB.out a1
    replace a2 := stays HB.out a2
    replace a3 := stays HB.out a3
    replace b0 := stays HB.out b0
    replace b1 := stays HB.out b1
    replace b2 := stays HB.out b2
    replace b3 := stays HB.out b3
    have HS := hid ((HST.out i hlt hlt).symm.trans HR.out)
    have HNE := neq_tok (la[i]?.getD z4) (lb[i]?.getD z4)
    generalize la[i]?.getD z4 = A at *
    generalize lb[i]?.getD z4 = B at *
    obtain ⟨ka, xa, na, aa⟩ := A
    obtain ⟨kb, xb, nb, ab⟩ := B
    simp only at a0 a1 a2 a3 b0 b1 b2 b3
    unfold tcs at HNE
    simp only at HNE
    unfold sj at HS
    simp only at HS
    obtain ⟨E, hE⟩ : ∃ E, eqt ⟨ka, xa, na, aa⟩ ⟨kb, xb, nb, ab⟩ = E := ⟨_, rfl⟩
    rw [hE] at HNE HS
    clear hE HCA HCB HST HEN H0 HR
    obtain ⟨x, hx⟩ : ∃ x, (xa.toList == xb.toList) = x := ⟨_, rfl⟩
    rw [hx] at HS
    have hxn : (xa.toList != xb.toList) = !x := by rw [← hx]; rfl
    by_cases hk : ka = kb
    rotate_left
    · have k1 : ((ka : Int) != (kb : Int)) = true := by simp; omega
      have HF : Hid (false = R) := by show _ = _; rw [← HS.out, show ((ka : Int) == (kb : Int)) = false by simp; omega]; rfl
      clear HS hk HNE
      go_wp2_with fail
      go_quiet (fail)
      go_wp2
      go_ret
      exact ⟨by rw [← HF.out]; rfl, drewn HB.out _⟩
    have k1 : ((ka : Int) != (kb : Int)) = false := by simp; omega
    rw [show ((ka : Int) == (kb : Int)) = true by simp; omega, Bool.true_and] at HS
    clear hk
    cases x with
    | false =>
      have HF : Hid (false = R) := HS.out
      clear HS HNE
      go_wp2_with fail
      go_quiet (fail)
      go_wp2
      go_ret
      exact ⟨by rw [← HF.out]; rfl, drewn HB.out _⟩
    | true =>
      cases loose with
      | true =>
        have HF : Hid (sm true (la.drop (i + 1)) (lb.drop (i + 1)) = R) := HS.out
        clear HS HNE
        go_wp2_with fail
        go_quiet (fail)
        go_wp2
        go_roundw
        case rel => exact ⟨i + 1, by omega, by go_num, HF, drewn HB.out _⟩
        case measure => simp [intOf]; omega
      | false =>
        cases E with
        | false =>
          have HF : Hid (false = R) := HS.out
          clear HS
          go_wp2_with fail
          go_quiet (fail)
          go_wp2
          go_ret
          exact ⟨by rw [← HF.out]; rfl, drewn HB.out _⟩
        | true =>
          have HF : Hid (sm false (la.drop (i + 1)) (lb.drop (i + 1)) = R) := HS.out
          clear HS
          go_wp2_with fail
          go_quiet (fail)
          go_wp2
          go_roundw
          case rel => exact ⟨i + 1, by omega, by go_num, HF, drewn HB.out _⟩
          case measure => simp [intOf]; omega
end Go.Proofs.YtphkdagapoonjaaDoor.Lx
