/- Plain: the line in which a token stands, gathered byte by byte. (Stage 15.) -/
import Derived.Test.YtphkdagapoonjaaDoorLPX
import Derived.BigQuiet
import Derived.Deep.QuietTactic
namespace Go.Proofs.YtphkdagapoonjaaDoor.Lx
open Go.RowKit
open Go.Proofs.YtphkdagapoonjaaDoor.F (bn bn_length bn_append bn_inj bn_get byte_bd hid bn_extract isEmpty_false isEmpty_true str_eq same_eq)
open Go.Proofs.YtphkdagapoonjaaDoor.U (nx enc encs scal val Bytes)
set_option linter.unusedVariables false

theorem bn_cut1 (s : ByteArray) (i j : Nat) : bn (s.extract i j) = ((bn s).drop i).take (j - i) := by
  unfold bn
  have : (s.extract i j).data.toList = (s.data.toList.drop i).take (j - i) := by
    rw [ByteArray.data_extract, Array.toList_extract]
  rw [this, List.map_take, List.map_drop]
theorem bn_one1 (s : ByteArray) (i : Nat) (h : i < s.size) : bn (s.extract i (i + 1)) = [(bn s)[i]?.getD 0] := by
  have hl : i < (bn s).length := by rw [bn_length]; exact h
  rw [bn_cut1, List.drop_eq_getElem_cons hl, Nat.add_sub_cancel_left, List.take_succ_cons, List.take_zero, List.getElem?_eq_getElem hl]
  rfl
/-- What is still to come of line T, in line n. -/
def rem (r : List Int) (n T : Nat) : List Int := if n ≤ T then pc r (T - n) else []
theorem rem_nil (n T : Nat) : rem [] n T = [] := by
  unfold rem
  split
  · generalize T - n = k
    induction k with
    | zero => rfl
    | succ k ih => rw [pc]; exact ih
  · rfl
theorem rem_nl (r : List Int) (n T : Nat) : rem (10 :: r) n T = rem r (n + 1) T := by
  unfold rem
  by_cases h : n ≤ T
  · rw [if_pos h]
    by_cases h1 : n + 1 ≤ T
    · rw [if_pos h1]
      obtain ⟨k, hk⟩ : ∃ k, T - n = k + 1 := ⟨T - n - 1, by omega⟩
      rw [hk, show T - (n + 1) = k by omega, pc, List.dropWhile_cons_of_neg (by decide)]; rfl
    · rw [if_neg h1, show T - n = 0 by omega, pc, List.takeWhile_cons_of_neg (by decide)]
  · rw [if_neg h, if_neg (by omega)]
theorem rem_eq {c : Int} (hc : c ≠ 10) (r : List Int) (n : Nat) : rem (c :: r) n n = c :: rem r n n := by
  unfold rem
  have h : no10 c = true := by unfold no10; exact decide_eq_true hc
  rw [if_pos (Nat.le_refl _), if_pos (Nat.le_refl _), Nat.sub_self, pc, pc, List.takeWhile_cons_of_pos h]
theorem rem_ne {c : Int} (hc : c ≠ 10) (r : List Int) {n T : Nat} (hn : n ≠ T) : rem (c :: r) n T = rem r n T := by
  unfold rem
  have h : no10 c = true := by unfold no10; exact decide_eq_true hc
  by_cases hle : n ≤ T
  · rw [if_pos hle, if_pos hle]
    obtain ⟨k, hk⟩ : ∃ k, T - n = k + 1 := ⟨T - n - 1, by omega⟩
    rw [hk, pc, pc, List.dropWhile_cons_of_pos h]
  · rw [if_neg hle, if_neg hle]
theorem rem_at {s : ByteArray} {i : Nat} (h : i < s.size) : (bn s).drop i = (bn s)[i]?.getD 0 :: (bn s).drop (i + 1) := by
  have hl : i < (bn s).length := by rw [bn_length]; exact h
  rw [List.drop_eq_getElem_cons hl, List.getElem?_eq_getElem hl]; rfl
theorem mask24 (x : Int) : ∃ z : Nat, z ≤ 16777215 ∧ bits .and .i64 x 16777215 = (z : Int) := by
  refine ⟨(BitVec.ofInt 64 x &&& BitVec.ofInt 64 16777215).toNat, ?_, ?_⟩
  · rw [BitVec.toNat_and]
    exact Nat.le_trans Nat.and_le_right (by decide)
  · have hb : (BitVec.ofInt 64 x &&& BitVec.ofInt 64 16777215).toNat ≤ 16777215 := by
      rw [BitVec.toNat_and]
      exact Nat.le_trans Nat.and_le_right (by decide)
    show IntKind.i64.wrap ((BitVec.ofInt 64 x &&& BitVec.ofInt 64 16777215).toNat : Int) = _
    generalize (BitVec.ofInt 64 x &&& BitVec.ofInt 64 16777215).toNat = z at hb ⊢
    simp [IntKind.wrap, IntKind.bits, IntKind.signed]
    omega
theorem slice_one (s : ByteArray) (i : Nat) (h : i < s.size) (w : World) : (Instr.slice 9 (.string s) (some (.int .i64 (i : Int))) (some (.int .i64 ((i : Int) + 1))) none).run Tryd.prog w = .ok (.string (s.extract i (i + 1))) w := by
  have := run_slice_string (P := Tryd.prog) w 9 s .i64 .i64 (i : Int) ((i : Int) + 1) Tryd.underlying9 (by omega) (by omega) (by omega)
  rw [this, show ((i : Int)).toNat = i by omega, show ((i : Int) + 1).toNat = i + 1 by omega]
/-- The token at a place among what Lex answers. -/
theorem tok_of {ts : List Tb} {s : ByteArray} (hl : lex (bn s) = (ts.map Tb.tk, 0, 0, 0)) (hs : s.size < 65536) (hnn : ∀ t ∈ ts, 0 ≤ t.n ∧ 0 ≤ t.a) {m : Nat} (hm : m < ts.length) : ∃ (k : Nat) (x : ByteArray) (tn ta : Nat), ts[m]?.getD z4 = ⟨k, x, tn, ta⟩ ∧ At (bn s) 1 ⟨k, bn x, tn, ta⟩ := by
  have hp := lex_places (s := bn s) (U.bn_bytes s) (by rw [bn_length]; exact hs) (by rw [hl])
  rw [hl] at hp
  have hmem : ts[m] ∈ ts := List.getElem_mem hm
  have h1 := hp _ (List.mem_map_of_mem hmem)
  have h2 := hnn _ hmem
  rw [List.getElem?_eq_getElem hm, Option.getD_some]
  generalize ts[m] = t at h1 h2 ⊢
  obtain ⟨k, x, n, a⟩ := t
  simp only at h2
  unfold Tb.tk at h1
  refine ⟨k, x, n.toNat, a.toNat, ?_, h1⟩
  rw [Int.toNat_of_nonneg h2.1, Int.toNat_of_nonneg h2.2]
/-- A later world, in which all that lay lies as it lay. -/
structure Later (w : World) where
  W : World
  h : Below w.heap.size w W
theorem wp_region_quiet_in {P : Program} {id : Nat} {Q : Exit → Act → World → Prop} {a : Act} {w : World} {l : List Oper} (hm : P.follows .mixedOrders = true) (hB : Region.lexB .any l.toArray = true)
    (h : wpQuiet P l.toArray (fun w' => ∃ x : Later w, w' = x.W) (fun a' => ∀ w', (∃ x : Later w, w' = x.W) → Q .normal a' w') l a) : (Code.region id l.toArray true).wp P Q a w :=
  wp_region_quiet (C := fun w' => ∃ x : Later w, w' = x.W) hm hB ⟨⟨{ w with drawn := w.drawn + 1 }, ⟨rfl, rfl, rfl, Nat.le_refl _, fun _ _ => rfl⟩⟩, rfl⟩ (by simpa using h)
theorem Later.call {w : World} {f : FuncId} {args : Array Value} {v : Value} (x : Later w) (h : Calls Tryd.prog f args x.W fun e w' => e = .returned v ∧ Below x.W.heap.size x.W w') : Calls Tryd.prog f args x.W fun e w' => e = .returned v ∧ ∃ y : Later w, w' = y.W :=
  h.mono fun _ w' ⟨he, hb⟩ => ⟨he, ⟨w', x.h.trans (hb.mono x.h.size)⟩, rfl⟩
theorem Later.keeps {w : World} {p : Addr} {v : Value} (h : w.cell? p = some v) (x : Later w) : x.W.cell? p = some v := Lx.keeps x.h h
/-- What is read where a token stands. -/
theorem ln_one {y : ByteArray} {k : Nat} {x : ByteArray} {r : List Tk} {B : Nat} {e : Ending} {W : World} (hr : lex (bn y) = (⟨k, bn x, 1, 0⟩ :: r, 0, 0, 0)) (h : LnR (lex (bn y)) B e W) : ∃ (b : Nat) (off len c : Nat), 0 < len ∧ e = .returned (.tuple #[.slice (some ⟨b, off, none⟩) len c, .agg #[.int .i64 0, .int .i64 0, .int .i64 0]]) ∧ W.cell? ⟨b, off, none⟩ = some (.int .u8 (k : Int)) ∧ W.cell? ⟨b, off + 1, none⟩ = some (.string x) ∧ W.cell? ⟨b, off + 2, none⟩ = some (.int .i64 1) ∧ W.cell? ⟨b, off + 3, none⟩ = some (.int .i64 0) := by
  obtain ⟨v, ts, hown, hts, hnn, rfl⟩ := h
  rw [hr] at hts ⊢
  simp only at hts
  match ts, hts, hnn, hown with
  | [], hts, _, _ => simp at hts
  | ⟨k1, x1, n1, a1⟩ :: ts, hts, hnn, hown =>
    rw [List.map_cons, List.cons.injEq] at hts
    unfold Tb.tk at hts
    simp only [Tk.mk.injEq] at hts
    obtain ⟨⟨rfl, e1, e2, e3⟩, _⟩ := hts
    obtain rfl := bn_inj e1
    have hn1 := hnn _ (List.mem_cons_self ..)
    simp only at hn1
    obtain rfl : n1 = 1 := by omega
    obtain rfl : a1 = 0 := by omega
    obtain ⟨a, c, rfl⟩ := hown.form
    obtain ⟨b, off, rfl, h0, h1, h2, h3⟩ := hown.at.cell (i := 0) (by simp)
    simp only [Nat.zero_mul, Nat.add_zero] at h0 h1 h2 h3
    exact ⟨b, off, _, c, by simp, rfl, h0, h1, h2, h3⟩
end Go.Proofs.YtphkdagapoonjaaDoor.Lx
