/- Texts of one layer, one behind the other: LA LB LC. -/
import Derived.Test.YtdncaehajhmcoaaGreatZD5
import Derived.Test.YtdncaehajhmcoaaGreatZN8
import Derived.Test.YtdncaehajhmcoaaGreatZD3
import Derived.Test.YtdncaehajhmcoaaGreatZN9
import Derived.Test.YtdncaehajhmcoaaGreatZU2
import Derived.Laws.BitsAllLaws
import Derived.Laws.Cover4
/- Plain: what a label is asked, on lists of code points. -/
namespace Go.Proofs.YtdncaehajhmcoaaGreat.L
open Go.RowKit
set_option linter.unusedVariables false

theorem hid {p : Prop} (h : p) : Hid p := h
def sts (r : Int) : Int := (D.fnd r).2.2.1
def bid (r : Int) : Int := (D.fnd r).2.2.2.2.1
def joi (r : Int) : Int := (D.fnd r).2.2.2.2.2.2.2
def cls (r : Int) : Int := (D.fnd r).2.2.2.2.2.1
def mrk (r : Int) : Bool := (D.fnd r).2.2.2.2.2.2.1
theorem fnd_all (P : D.Rw → Prop) (h0 : P D.zr) (ht : ∀ x ∈ D.tab, P x) (r : Int) : P (D.fnd r) := by
  rw [D.fnd_tab]
  unfold D.pickR
  cases h : D.tab.find? (D.inRow r) with
  | none => exact h0
  | some x => exact ht x (List.mem_of_find?_eq_some h)
theorem bid_bd (r : Int) : 0 ≤ bid r ∧ bid r ≤ 9 :=
  fnd_all (fun x => 0 ≤ x.2.2.2.2.1 ∧ x.2.2.2.2.1 ≤ 9) (by decide +kernel) (by decide +kernel) r
theorem joi_bd (r : Int) : 0 ≤ joi r ∧ joi r ≤ 5 :=
  fnd_all (fun x => 0 ≤ x.2.2.2.2.2.2.2 ∧ x.2.2.2.2.2.2.2 ≤ 5) (by decide +kernel) (by decide +kernel) r
theorem cls_bd (r : Int) : 0 ≤ cls r ∧ cls r ≤ 255 :=
  fnd_all (fun x => 0 ≤ x.2.2.2.2.2.1 ∧ x.2.2.2.2.2.1 ≤ 255) (by decide +kernel) (by decide +kernel) r
theorem sts_bd (r : Int) : 0 ≤ sts r ∧ sts r ≤ 255 :=
  fnd_all (fun x => 0 ≤ x.2.2.1 ∧ x.2.2.1 ≤ 255) (by decide +kernel) (by decide +kernel) r

/-! ### Directions -/
def dir (r : Int) : Nat := 2 ^ (bid r).toNat
def dirs (l : List Int) : Nat := l.foldl (fun a r => a ||| dir r) 0
theorem dirs_snoc (l : List Int) (r : Int) : dirs (l ++ [r]) = dirs l ||| dir r := by simp [dirs]
theorem dir_lt (r : Int) : dir r < 1024 := by
  have h := bid_bd r
  have : (bid r).toNat ≤ 9 := by omega
  have h2 := Nat.pow_le_pow_right (show 0 < 2 by omega) this
  unfold dir
  omega
theorem fold_lt : ∀ (l : List Int) (a : Nat), a < 1024 → l.foldl (fun a r => a ||| dir r) a < 1024
  | [], a, h => h
  | r :: l, a, h => fold_lt l _ (Nat.or_lt_two_pow (n := 10) h (dir_lt r))
theorem dirs_lt (l : List Int) : dirs l < 1024 := fold_lt l 0 (by omega)
def has (l : List Int) (b : Int) : Bool := l.any fun r => decide (bid r = b)
theorem dir_bit (r : Int) (b : Nat) : (dir r).testBit b = decide (bid r = b) := by
  have h := bid_bd r
  unfold dir
  rw [Nat.testBit_two_pow]
  congr 1
  exact propext ⟨fun h => by omega, fun h => by omega⟩
theorem fold_bit (b : Nat) : ∀ (l : List Int) (a : Nat), (l.foldl (fun a r => a ||| dir r) a).testBit b = (a.testBit b || has l b)
  | [], a => by simp [has]
  | r :: l, a => by
    rw [List.foldl_cons, fold_bit b l, Nat.testBit_or, dir_bit, has, has, List.any_cons, Bool.or_assoc]
theorem dirs_bit (l : List Int) (b : Nat) : (dirs l).testBit b = has l b := by
  unfold dirs
  rw [fold_bit b l 0, Nat.zero_testBit, Bool.false_or]
/-- The last one that is not NSM. -/
def lastN (l : List Int) : Option Int := l.reverse.find? fun r => decide (bid r ≠ 8)
def lastD (l : List Int) : Nat := ((lastN l).map dir).getD 0
theorem lastD_lt (l : List Int) : lastD l < 1024 := by
  unfold lastD
  cases lastN l with
  | none => simp
  | some r => exact dir_lt r
def lastB (l : List Int) : Int := ((lastN l).map bid).getD 8
def goesR (l : List Int) : Bool := has l 2 || has l 3 || has l 7
def bidiOk : List Int → Bool
  | [] => true
  | r :: t => if bid r = 2 ∨ bid r = 3 then !has (r :: t) 1 && !(has (r :: t) 4 && has (r :: t) 7) && (decide (lastB (r :: t) = 2) || decide (lastB (r :: t) = 3) || decide (lastB (r :: t) = 4) || decide (lastB (r :: t) = 7))
    else if bid r = 1 then !has (r :: t) 2 && !has (r :: t) 3 && !has (r :: t) 7 && (decide (lastB (r :: t) = 1) || decide (lastB (r :: t) = 4)) else false
theorem bits_r : ∀ x : Fin 1024, (bits .and .u16 (x.val : Int) 140 != 0) = (x.val.testBit 2 || x.val.testBit 3 || x.val.testBit 7) := by decide +kernel
theorem bits_ar : ∀ x : Fin 1024, (bits .andNot .u16 (x.val : Int) 1021 == 0) = !x.val.testBit 1 := by decide +kernel
theorem bits_er : ∀ x : Fin 1024, (bits .and .u16 (x.val : Int) 156 != 0) = (x.val.testBit 2 || x.val.testBit 3 || x.val.testBit 4 || x.val.testBit 7) := by decide +kernel
theorem bits_nn : ∀ x : Fin 1024, (bits .and .u16 (x.val : Int) 144 != 144) = !(x.val.testBit 4 && x.val.testBit 7) := by decide +kernel
theorem bits_al : ∀ x : Fin 1024, (bits .andNot .u16 (x.val : Int) 883 == 0) = (!x.val.testBit 2 && !x.val.testBit 3 && !x.val.testBit 7) := by decide +kernel
theorem bits_el : ∀ x : Fin 1024, (bits .and .u16 (x.val : Int) 18 != 0) = (x.val.testBit 1 || x.val.testBit 4) := by decide +kernel
theorem bits_rl : ∀ x : Fin 1024, (bits .and .u16 (x.val : Int) 12 != 0) = (x.val.testBit 2 || x.val.testBit 3) := by decide +kernel
theorem lastD_bit (l : List Int) (b : Nat) (hb : b ≠ 8) : (lastD l).testBit b = decide (lastB l = b) := by
  unfold lastD lastB
  cases lastN l with
  | none => simp; omega
  | some r => simp [dir_bit]
/-- What stands from a place on, to either end. -/
def rem (L : List Int) (st a : Int) : List Int := if st = 1 then L.drop a.toNat else (L.take (a + 1).toNat).reverse
theorem rem_at (L : List Int) (st a : Int) (hst : st = 1 ∨ st = -1) (h0 : 0 ≤ a) (h1 : a < L.length) : rem L st a = L[a.toNat]?.getD 0 :: rem L st (a + st) := by
  obtain ⟨k, rfl⟩ : ∃ k : Nat, a = k := ⟨a.toNat, by omega⟩
  have hk : k < L.length := by omega
  rcases hst with rfl | rfl
  · simp only [rem, if_true]
    rw [show ((k : Int) + 1).toNat = k + 1 by omega, Int.toNat_natCast, List.drop_eq_getElem_cons hk, List.getElem?_eq_getElem hk]; rfl
  · simp only [rem, show ¬ ((-1 : Int) = 1) by omega, if_false]
    rw [show ((k : Int) + 1).toNat = k + 1 by omega, show ((k : Int) + -1 + 1).toNat = k by omega, Int.toNat_natCast, List.take_succ_eq_append_getElem hk, List.reverse_append, List.getElem?_eq_getElem hk]; rfl
theorem rem_out (L : List Int) (st a : Int) (h : (st = 1 ∧ (L.length : Int) ≤ a) ∨ (st = -1 ∧ a < 0)) : rem L st a = [] := by
  rcases h with ⟨rfl, h⟩ | ⟨rfl, h⟩
  · simp only [rem, if_true]
    exact List.drop_of_length_le (by omega)
  · simp only [rem, show ¬ ((-1 : Int) = 1) by omega, if_false]
    rw [show (a + 1).toNat = 0 by omega]; rfl
/-- The joining type of the nearest one that is not T. -/
def nb (L : List Int) (i st : Int) : Int := (((rem L st (i + st)).find? fun r => decide (joi r ≠ 4)).map joi).getD 0
def may (L : List Int) (i : Nat) : Bool :=
  (decide (0 < i) && decide (cls (L[i - 1]?.getD 0) = 9)) || (decide (L[i]?.getD 0 = 8204) && ((decide (nb L i (-1) = 1) || decide (nb L i (-1) = 3)) && (decide (nb L i 1 = 2) || decide (nb L i 1 = 3))))
def jat (L : List Int) (i : Nat) : Bool := !(decide (L[i]?.getD 0 = 8204) || decide (L[i]?.getD 0 = 8205)) || may L i
def jok (L : List Int) : Bool := (List.range L.length).all (jat L)
theorem jok_no (L : List Int) (i : Nat) (hi : i < L.length) (h : jat L i = false) : jok L = false := by
  unfold jok
  rw [Bool.eq_false_iff]
  intro hc
  have := List.all_eq_true.1 hc i (List.mem_range.2 hi)
  rw [h] at this; cases this
theorem jok_yes (L : List Int) (h : ∀ i, i < L.length → jat L i = true) : jok L = true :=
  List.all_eq_true.2 fun i hi => h i (List.mem_range.1 hi)
/-! ### What is wrong -/
def nval (r : Int) : Bool := decide (sts r ≠ 1) && decide (sts r ≠ 4)
def pre4 (L : List Int) : Bool := decide (L.take 4 = [120, 110, 45, 45])
def qs (L : List Int) (hy : Bool) : List Bool :=
  [!decide (N.nfcI L = L), hy && decide (4 ≤ L.length) && decide (L[2]?.getD 0 = 45) && decide (L[3]?.getD 0 = 45), hy && (decide (L[0]?.getD 0 = 45) || decide (L[L.length - 1]?.getD 0 = 45)),
    pre4 L, L.any (fun r => decide (r = 46)), mrk (L[0]?.getD 0), L.any nval, !jok L]
def bt (b : Bool) (v : Int) : Int := if b then v else 0
def sm : Nat → List Bool → Int
  | _, [] => 0
  | k, b :: l => bt b (2 ^ k) + sm (k + 1) l
/-- The sum of all that is wrong. -/
def flt (L : List Int) (hy : Bool) : Int := if L.length = 0 then 0 else sm 0 (qs L hy)
end Go.Proofs.YtdncaehajhmcoaaGreat.L
/- The contracts of direction, directions and Right. -/
namespace Go.Proofs.YtdncaehajhmcoaaGreat.L
open Go.RowKit
set_option linter.unusedVariables false

/-- The shape of a slice of code points. -/
theorem ints_form {w : World} {v : Value} {L : List Int} (h : U.IntsAt w v L) : ∃ a c, v = .slice a L.length c ∧ (0 < L.length → ∃ b off, a = some ⟨b, off, none⟩ ∧ ∀ j, j < L.length → w.cell? ⟨b, off + j, none⟩ = some (.int .i32 (L[j]?.getD 0))) := by
  rcases h with ⟨rfl, x, c, rfl⟩ | ⟨hp, b, off, c, rfl, h⟩
  · exact ⟨x, c, rfl, fun h => by simp at h⟩
  · exact ⟨_, c, rfl, fun _ => ⟨b, off, rfl, h⟩⟩
theorem cell_at {w wr : World} {a : Option Addr} {n : Nat} {L : List Int} (hf : 0 < n → ∃ b off, a = some ⟨b, off, none⟩ ∧ ∀ j, j < n → w.cell? ⟨b, off + j, none⟩ = some (.int .i32 (L[j]?.getD 0))) (hB : Below w.heap.size w wr) (k : Nat) (hk : k < n) :
    ∃ b off, a = some ⟨b, off, none⟩ ∧ wr.cell? ⟨b, off + k, none⟩ = some (.int .i32 (L[k]?.getD 0)) := by
  obtain ⟨b, off, e, hc⟩ := hf (by omega)
  exact ⟨b, off, e, (hB.cell (p := ⟨b, off + k, none⟩) (U.lt_of_cell (hc k hk))).trans (hc k hk)⟩
theorem take_one (L : List Int) (k : Nat) (h : k < L.length) : L.take (k + 1) = L.take k ++ [L[k]?.getD 0] := by
  rw [List.take_succ_eq_append_getElem h, List.getElem?_eq_getElem h]; rfl

theorem shl_dir (r : Int) : IntKind.wrap .u16 (2 ^ (bid r).toNat) = (dir r : Int) := by
  have h := dir_lt r
  have e : ((dir r : Nat) : Int) = 2 ^ (bid r).toNat := by unfold dir; push_cast; rfl
  rw [← e]
  rw [IntKind.wrap_u16]
  omega
set_option maxRecDepth 100000 in
set_option maxHeartbeats 1000000 in
theorem direction_any (r : Int) (w : World) :
    Calls Tryz.prog 94 #[.int .i32 r] w fun e W' => e = .returned (.int .u16 (dir r)) ∧ Below w.heap.size w W' := by
  have hb := bid_bd r
  have HD := hid (shl_dir r)
  have hc : Calls Tryz.prog 147 #[.int .i32 r] w fun e W' => e = .returned (.int .u8 (bid r)) ∧ Below w.heap.size w W' := D.bidi_any r w
  have HC := hid hc
  obtain ⟨b, hbb⟩ : ∃ b, bid r = b := ⟨_, rfl⟩
  rw [hbb] at HC HD hb
  clear hc hbb
  go_enter Tryz.func94, Tryz.ntmps94
  go_wp2_with fail
  refine HC.out.mono ?_
  rintro e w1 ⟨rfl, B1⟩
  go_wp2
  go_ret
  exact ⟨by rw [← HD.out]; rfl, B1⟩
set_option maxRecDepth 100000 in
set_option maxHeartbeats 2000000 in
theorem directions_any (v : Value) (L : List Int) (w : World) (hlen : L.length ≤ 100000) (hv : U.IntsAt w v L) :
    Calls Tryz.prog 66 #[v] w fun e W' => e = .returned (.int .u16 (dirs L)) ∧ Below w.heap.size w W' := by
  obtain ⟨a, c, rfl, hf⟩ := ints_form hv
  have HF := hid hf
  obtain ⟨n, hn⟩ : ∃ n, L.length = n := ⟨_, rfl⟩
  rw [hn] at hlen HF ⊢
  have HN := hid hn
  clear hv hf hn
  go_enter Tryz.func66, Tryz.ntmps66
  go_wp2_with fail
  go_loopw [3, 8] (fun v3 v8 wr => ∃ k : Nat, k ≤ n ∧ v3 = .int .u16 (dirs (L.take k)) ∧ v8 = .int .i64 k ∧ Hid (Below w.heap.size w wr)) (fun _ v8 _ => n - (intOf v8).toNat)
  case atStart => exact ⟨0, Nat.zero_le _, rfl, rfl, Below.refl _ _⟩
  case round =>
    obtain ⟨k, hk, rfl, rfl, HB⟩ := hrel
    by_cases hlt : k < n
    · obtain ⟨b, off, rfl, hck⟩ := cell_at HF.out HB.out k hlt
      have HT := hid (take_one L k (by rw [HN.out]; exact hlt))
      obtain ⟨x, hx⟩ : ∃ x, L[k]?.getD 0 = x := ⟨_, rfl⟩
      rw [hx] at hck HT
      clear hx
      have HX := hid (u16_or_nat (dirs (L.take k)) (dir x) (by have := dirs_lt (L.take k); omega) (by have := dir_lt x; omega))
      have HY := hid (dirs_snoc (L.take k) x)
      obtain ⟨D, hD⟩ : ∃ D, dirs (L.take k) = D := ⟨_, rfl⟩
      rw [hD] at HX HY
      rw [hD]
      have HDD := hid (direction_any x wr)
      obtain ⟨E, hE⟩ : ∃ E, dir x = E := ⟨_, rfl⟩
      rw [hE] at HX HY HDD
      clear hD hE
      go_wp2_with (go_at_call 94; refine HDD.out.mono ?_; rintro e w1 ⟨rfl, B1⟩)
      go_roundw
      case rel => exact ⟨k + 1, by omega, by rw [HT.out, HY.out, HX.out], by go_num, HB.out.trans (B1.mono HB.out.size)⟩
      case measure => simp [intOf]; omega
    · have e : L.take k = L := List.take_of_length_le (by rw [HN.out]; omega)
      rw [e]
      clear e
      go_wp2
      go_ret
      exact ⟨rfl, HB.out⟩
set_option maxRecDepth 100000 in
set_option maxHeartbeats 2000000 in
theorem right_any (v : Value) (L : List Int) (w : World) (hlen : L.length ≤ 100000) (hv : U.IntsAt w v L) :
    Calls Tryz.prog 35 #[v] w fun e W' => e = .returned (.bool (goesR L)) ∧ Below w.heap.size w W' := by
  have HD := hid (directions_any v L w hlen hv)
  have HR : Hid ((bits .and .u16 (dirs L : Int) 140 != 0) = goesR L) := by
    show _ = _
    rw [bits_r ⟨dirs L, dirs_lt L⟩]
    simp only [dirs_bit]
    rfl
  obtain ⟨a, c, rfl, -⟩ := ints_form hv
  obtain ⟨X, hX⟩ : ∃ X, dirs L = X := ⟨_, rfl⟩
  rw [hX] at HD HR
  obtain ⟨n, hn⟩ : ∃ n, L.length = n := ⟨_, rfl⟩
  rw [hn] at HD ⊢
  clear hX hv hn
  go_enter Tryz.func35, Tryz.ntmps35
  go_wp2_with fail
  refine HD.out.mono ?_
  rintro e w1 ⟨rfl, B1⟩
  go_wp2
  go_ret
  exact ⟨by rw [← HR.out]; rfl, B1⟩
end Go.Proofs.YtdncaehajhmcoaaGreat.L
/- The iterator that onFrom hands back. -/
namespace Go.Proofs.YtdncaehajhmcoaaGreat.L
open Go.RowKit Go.Shelf
set_option linter.unusedVariables false
attribute [local go_sem] Oper.semAt_some

abbrev encR (x : Int) : Array Value := #[.int .i32 x]
/-- What the iterator captures: the place, the step, the row. -/
structure Frm (Bi Bs Bl : Nat) (i st : Int) (v : Value) (W : World) : Prop where
  i : Boxed W Bi 3 (.int .i64 i)
  s : Boxed W Bs 3 (.int .i64 st)
  l : Boxed W Bl 34 v
/-- What lay there before is as it was. -/
def Old (w W : World) : Prop := ∀ b, b < w.heap.size → W.heap[b]? = w.heap[b]?
theorem Old.below {w W : World} (h : Below w.heap.size w W) : Old w W := fun b hb => h.block b hb
theorem Old.ints {w W : World} {v : Value} {L : List Int} (h : Old w W) (hI : U.IntsAt w v L) : U.IntsAt W v L := by
  rcases hI with hI | ⟨hp, b, off, c, rfl, hc⟩
  · exact .inl hI
  · refine .inr ⟨hp, b, off, c, rfl, fun j hj => ?_⟩
    have h1 := hc j hj
    have h2 := h b (U.lt_of_cell (a := ⟨b, off + j, none⟩) h1)
    rw [← h1]
    simp [World.cell?, h2]
def KeepsF (w : World) (Bi Bs Bl : Nat) (i st : Int) (v : Value) (W W' : World) : Prop := Frm Bi Bs Bl i st v W ∧ Old w W → Frm Bi Bs Bl i st v W' ∧ Old w W'

set_option maxRecDepth 100000 in
set_option maxHeartbeats 2000000 in
theorem from_in (w0 : World) (n : Nat) (hn : 1 ≤ n) (l Bi Bs Bl : Nat) (i st : Int) (v : Value) (L : List Int) (hst : st = 1 ∨ st = -1) (hi0 : 0 ≤ i) (hi1 : i + st ≤ L.length) (hi2 : i ≤ L.length) (hlen : L.length ≤ 100000) (J Jx : List Int → World → Prop)
    (hY : ∀ pre x W, J pre W → pre.length < L.length + 1 → YieldAt Fence.wide (n - 1) Tryz.prog l #[.int .i32 x] W fun e W' =>
      (e = .returned (.bool true) ∧ J (pre ++ [x]) W' ∧ KeepsF w0 Bi Bs Bl i st v W W') ∨ (e = .returned (.bool false) ∧ Jx (pre ++ [x]) W'))
    (W : World) (hF : Frm Bi Bs Bl i st v W) (hI0 : U.IntsAt w0 v L) (hI : Old w0 W) (h0 : J [] W) :
    CallsIn Fence.wide n Tryz.prog 176 #[.func (.yield l) #[] #[], .pointer (some ⟨Bi, 0, none⟩), .pointer (some ⟨Bs, 0, none⟩), .pointer (some ⟨Bl, 0, none⟩)] W fun e W' => (∃ v, e = .returned v) ∧
      ((∃ ys, ys = rem L st (i + st) ∧ J ys W') ∨ (∃ pre, pre <+: rem L st (i + st) ∧ Jx pre W')) := by
  have hci := hF.i.cell
  have hcs := hF.s.cell
  have hcl := hF.l.cell
  refine callsIn_of_wp Tryz.func176 rfl trivial ?_ rfl
  simp only [Tryz.ntmps176, List.size_toArray, List.length_cons, List.length_nil, Nat.reduceAdd, Nat.reduceSub, Array.replicate_succ, Array.replicate_zero, List.push_toArray, List.append_toArray, List.nil_append, List.cons_append]
  have hb1 : -1 ≤ st := by omega
  have hb2 : st ≤ 1 := by omega
  have hw : i + st ≤ 100000 := by omega
  gi_wp2_with fail
  gi_loopw [5] (fun v5 wr => ∃ (a : Int) (pre : List Int), -1 ≤ a ∧ a ≤ L.length ∧ (st = 1 → 0 ≤ a) ∧ (st = -1 → a < L.length) ∧ v5 = .int .i64 a ∧ (Frm Bi Bs Bl i st v wr ∧ Old w0 wr) ∧ J pre wr ∧ Hid (pre.length + (rem L st a).length ≤ L.length) ∧ Hid (rem L st (i + st) = pre ++ rem L st a))
    (fun v5 _ => (rem L st (intOf v5)).length)
  case atStart =>
    exact ⟨i + st, [], by omega, hi1, by omega, by omega, by first | rfl | go_num, ⟨hF, hI⟩, h0, by
      show _ ≤ _
      unfold rem
      split
      · simp
      · simp; omega, by show _ = _; simp⟩
  case round =>
    obtain ⟨a, pre, ha0, ha1, ha2, ha3, rfl, ⟨hFr, hIr⟩, hJ, HPL, HE⟩ := hrel
    have hcs := hFr.s.cell
    have hcl := hFr.l.cell
    obtain ⟨va, vc, rfl, hf⟩ := ints_form (hIr.ints hI0)
    by_cases hin : 0 ≤ a ∧ a < L.length
    · obtain ⟨k, rfl⟩ : ∃ k : Nat, a = k := ⟨a.toNat, by omega⟩
      have hk : k < L.length := by omega
      obtain ⟨b, off, rfl, hc⟩ := hf (by omega)
      have hck := hc k hk
      have HR := hid (rem_at L st k hst hin.1 hin.2)
      rw [Int.toNat_natCast] at HR
      obtain ⟨x, hx⟩ : ∃ x, L[k]?.getD 0 = x := ⟨_, rfl⟩
      rw [hx] at hck HR
      have hpl : pre.length < L.length + 1 := by
        have := HPL.out
        omega
      have hyy := hY pre x wr hJ hpl
      obtain ⟨fn, tmps, assign, body, hy, hR⟩ := hyy
      have hk2 : (k : Int) < (L.length : Int) := by omega
      have hk3 : (0 : Int) ≤ (k : Int) := by omega
      clear hx hf hc hin
      gi_wp2
      refine hR.mono ?_
      rintro e W3 (⟨rfl, hJ3, hk3'⟩ | ⟨rfl, hJx3⟩)
      · obtain ⟨hF3, hI3⟩ := hk3' ⟨hFr, hIr⟩
        have hcs3 := hF3.s.cell
        gi_wp2
        go_roundw
        case rel =>
          refine ⟨(k : Int) + st, pre ++ [x], by omega, by omega, by omega, by omega, by first | rfl | go_num, ⟨hF3, hI3⟩, hJ3, ?_, ?_⟩
          · show _ ≤ _
            have h1 := HPL.out
            rw [HR.out, List.length_cons] at h1
            rw [List.length_append, List.length_cons, List.length_nil]
            omega
          · show _ = _
            rw [HE.out, HR.out]; simp
        case measure =>
          simp only [intOf]
          rw [HR.out, List.length_cons]
          first | omega | (simp; done) | skip
      · gi_wp2
        refine bodyPost_ret (results_none rfl _ _ _) rfl ?_
        exact ⟨⟨_, rfl⟩, .inr ⟨pre ++ [x], ⟨rem L st ((k : Int) + st), by rw [HE.out, HR.out]; simp⟩, hJx3⟩⟩
    · have HO : Hid (rem L st a = []) := rem_out L st a (by
        rcases hst with h | h
        · have := ha2 h
          exact .inl ⟨h, by omega⟩
        · by_cases h2 : a < 0
          · exact .inr ⟨h, h2⟩
          · exact absurd ⟨by omega, ha3 h⟩ hin)
      have HJ : Hid (J (rem L st (i + st)) wr) := by show J _ _; rw [HE.out, HO.out, List.append_nil]; exact hJ
      by_cases h2 : 0 ≤ a
      · have h3 : ¬ a < (L.length : Int) := by omega
        clear hin
        gi_wp2
        go_end0
        exact ⟨⟨_, rfl⟩, .inl HJ.out⟩
      · clear hin
        gi_wp2
        go_end0
        exact ⟨⟨_, rfl⟩, .inl HJ.out⟩

set_option maxHeartbeats 1000000 in
/-- onFrom: row, place and step are boxed; the function value captures the boxes. -/
theorem onFrom_in (n : Nat) (v : Value) (i st : Int) (w : World) (hv : ∃ a m c, v = .slice a m c) :
    CallsIn Fence.wide n Tryz.prog 148 #[v, .int .i64 i, .int .i64 st] w fun e w' => e = .returned (.func (.func 176) #[] #[.pointer (some ⟨w.heap.size + 1, 0, none⟩), .pointer (some ⟨w.heap.size + 2, 0, none⟩), .pointer (some ⟨w.heap.size, 0, none⟩)]) ∧
      w' = ((w.alloc (.cells #[v] 34)).alloc (.cells #[.int .i64 i] 3)).alloc (.cells #[.int .i64 st] 3) := by
  obtain ⟨a, m, c, rfl⟩ := hv
  refine callsIn_of_wp Tryz.func148 rfl trivial ?_ rfl
  simp only [Tryz.ntmps148, List.size_toArray, List.length_cons, List.length_nil, Nat.reduceAdd, Nat.reduceSub, Array.replicate_succ, Array.replicate_zero, List.push_toArray, List.append_toArray, List.nil_append, List.cons_append]
  gi_wp2
  go_ret
  exact ⟨rfl, rfl⟩
theorem Frm.new (w : World) (v : Value) (i st : Int) : Frm (w.heap.size + 1) (w.heap.size + 2) w.heap.size i st v (((w.alloc (.cells #[v] 34)).alloc (.cells #[.int .i64 i] 3)).alloc (.cells #[.int .i64 st] 3)) := by
  have b1 := Boxed.new w 34 v
  have b2 := Boxed.new (w.alloc (.cells #[v] 34)) 3 (.int .i64 i)
  have b3 := Boxed.new ((w.alloc (.cells #[v] 34)).alloc (.cells #[.int .i64 i] 3)) 3 (.int .i64 st)
  simp only [World.size_alloc] at b2 b3
  exact ⟨b2.alloc _, b3, (b1.alloc _).alloc _⟩
theorem from_stops (w0 : World) (n : Nat) (hn : 1 ≤ n) (Bi Bs Bl : Nat) (i st : Int) (v : Value) (L : List Int) (hst : st = 1 ∨ st = -1) (hi0 : 0 ≤ i) (hi1 : i + st ≤ L.length) (hi2 : i ≤ L.length) (hlen : L.length ≤ 100000) (w : World) (hF : Frm Bi Bs Bl i st v w) (hI0 : U.IntsAt w0 v L) (hI : Old w0 w) (hw : w0.heap.size ≤ w.heap.size) :
    SeqStopsK Fence.wide n Tryz.prog 176 #[.pointer (some ⟨Bi, 0, none⟩), .pointer (some ⟨Bs, 0, none⟩), .pointer (some ⟨Bl, 0, none⟩)] encR (KeepsF w0 Bi Bs Bl i st v) (fun ys => ys = rem L st (i + st)) (fun pre => pre <+: rem L st (i + st)) (L.length + 1) w := fun l J Jx W hW hJ _ hY h0 =>
  from_in w0 n hn l Bi Bs Bl i st v L hst hi0 hi1 hi2 hlen J Jx hY W ⟨(hW.block Bi hF.i.lt).trans hF.i, (hW.block Bs hF.s.lt).trans hF.s, (hW.block Bl hF.l.lt).trans hF.l⟩ hI0 (fun b hb => (hW.block b (by omega)).trans (hI b hb)) h0
theorem keepsF_t {w0 : World} {Bi Bs Bl : Nat} {i st : Int} {v : Value} {A B C : World} (h : KeepsF w0 Bi Bs Bl i st v A B) (k : KeepsF w0 Bi Bs Bl i st v B C) : KeepsF w0 Bi Bs Bl i st v A C := fun x => k (h x)
theorem keepsF_b {w0 : World} {Bi Bs Bl : Nat} {i st : Int} {v : Value} {w : World} (h1 : Bi < w.heap.size) (h2 : Bs < w.heap.size) (h3 : Bl < w.heap.size) (h4 : w0.heap.size ≤ w.heap.size) (W : World) (l : Nat) (o o' : Obj) (hl : w.heap.size ≤ l) (_ : W.heap[l]? = some o) (_ : o.isCells = false) (_ : o.isWalk = false) : KeepsF w0 Bi Bs Bl i st v W (W.putObj l o') :=
  fun x => ⟨⟨(World.putObj_heap_other (by omega)).trans x.1.i, (World.putObj_heap_other (by omega)).trans x.1.s, (World.putObj_heap_other (by omega)).trans x.1.l⟩, fun b hb => (World.putObj_heap_other (by omega)).trans (x.2 b hb)⟩
theorem frm_own {β : Type} (Bi Bs Bl : Nat) (i st : Int) (v : Value) : Own (fun (_ : β) W => Frm Bi Bs Bl i st v W) := fun s X Y row hs hg hr =>
  ⟨boxed_own Bi 3 (fun _ => .int .i64 i) s X Y row hs.i hg hr, boxed_own Bs 3 (fun _ => .int .i64 st) s X Y row hs.s hg hr, boxed_own Bl 34 (fun _ => v) s X Y row hs.l hg hr⟩
theorem keeps_below {W W' : World} (h : Below W.heap.size W W') : KeepsOthers W W' := ⟨h.size, fun k o hk _ => (h.block k (Array.getElem?_eq_some_iff.1 hk).1).trans hk⟩
theorem frm_below {Bi Bs Bl : Nat} {i st : Int} {v : Value} {W W' : World} (h : Below W.heap.size W W') (hF : Frm Bi Bs Bl i st v W) : Frm Bi Bs Bl i st v W' :=
  ⟨(h.block Bi hF.i.lt).trans hF.i, (h.block Bs hF.s.lt).trans hF.s, (h.block Bl hF.l.lt).trans hF.l⟩
end Go.Proofs.YtdncaehajhmcoaaGreat.L
