/- The library's own at this program, in plain words. (Stage 15.) -/
import Derived.Test.YtphkdagapoonjaaDoorLSB
import Derived.Test.YtphkdagapoonjaaDoorLPB
namespace Go.Proofs.YtphkdagapoonjaaDoor.Lx
open Go.RowKit
open Go.Proofs.YtphkdagapoonjaaDoor.F (bn bn_length bn_append bn_inj bn_get byte_bd hid bn_extract isEmpty_false isEmpty_true str_eq same_eq)
open Go.Proofs.YtphkdagapoonjaaDoor.U (nx enc encs scal val Bytes)
set_option linter.unusedVariables false

/-- What the library keeps: the tables of utf8, a number, two errors. -/
structure Gl (w : World) : Prop where
  tabs : Lib.Utf8Tabs 0 1 w
  maxl : ∃ m : Int, w.cell? ⟨2, 0, none⟩ = some (.int .i64 m)
  esyn : ∃ ev, w.cell? ⟨6, 0, none⟩ = some ev ∧ (ev = .nilIface ∨ ∃ te pe, ev = .iface te pe)
  eran : ∃ ev, w.cell? ⟨7, 0, none⟩ = some ev ∧ (ev = .nilIface ∨ ∃ te pe, ev = .iface te pe)
  brui : w.cell? ⟨5, 15, none⟩ = some (.int .u8 4)
theorem keeps {w W : World} {p : Addr} {v : Value} (hb : Below w.heap.size w W) (h : w.cell? p = some v) : W.cell? p = some v := (hb.cell (p := p) (Lib.lt_of_cell h)).trans h
theorem Gl.below {w W : World} (h : Gl w) (hb : Below w.heap.size w W) : Gl W := by
  obtain ⟨t1, t2⟩ := h.tabs
  obtain ⟨m, hm⟩ := h.maxl
  obtain ⟨a, ha, ha2⟩ := h.esyn
  obtain ⟨b, hb1, hb2⟩ := h.eran
  have h5 := h.brui
  exact ⟨⟨fun c hc => keeps hb (t1 c hc), fun i hi => ⟨keeps hb (t2 i hi).1, keeps hb (t2 i hi).2⟩⟩, ⟨m, keeps hb hm⟩, ⟨a, keeps hb ha, ha2⟩, ⟨b, keeps hb hb1, hb2⟩, keeps hb h5⟩
theorem Gl.from {B : Nat} {w W : World} (h : Gl w) (hb : Below B w W) (hB : w.heap.size ≤ B) : Gl W := h.below (hb.mono hB)

/-- A list of bytes, as numbers. -/
def nn (l : List UInt8) : List Int := l.map fun c => (c.toNat : Int)
theorem bn_nn (s : ByteArray) : bn s = nn s.data.toList := rfl
theorem bn_arr (l : List UInt8) : bn ⟨l.toArray⟩ = nn l := by simp [bn, nn]
theorem nn_take (l : List UInt8) (k : Nat) : nn (l.take k) = (nn l).take k := by simp [nn]
theorem nn_drop (l : List UInt8) (k : Nat) : nn (l.drop k) = (nn l).drop k := by simp [nn]
theorem nn_inj : ∀ {a b : List UInt8}, nn a = nn b → a = b
  | [], [], _ => rfl
  | [], _ :: _, h => by simp [nn] at h
  | _ :: _, [], h => by simp [nn] at h
  | x :: a, y :: b, h => by
    simp only [nn, List.map_cons, List.cons.injEq] at h
    have e : x = y := UInt8.toNat_inj.1 (by omega)
    rw [nn_inj h.2, e]
theorem tw_all {p : Int → Bool} : ∀ {l : List Int}, (∀ x ∈ l, p x = true) → l.takeWhile p = l ∧ l.dropWhile p = []
  | [], _ => ⟨rfl, rfl⟩
  | x :: l, h => by
    have ih := tw_all (l := l) (fun y hy => h y (by simp [hy]))
    have hx := h x (by simp)
    exact ⟨by rw [List.takeWhile_cons, if_pos hx, ih.1], by rw [List.dropWhile_cons, if_pos hx, ih.2]⟩
def is (c : Int) (x : Int) : Bool := decide (x ≠ c)
theorem idx_one : ∀ (l : List UInt8) (c : UInt8), Lib.index l [c] = if (c.toNat : Int) ∈ nn l then (((nn l).takeWhile (is c.toNat)).length : Int) else -1
  | [], c => by simp [Lib.index, nn]
  | b :: l, c => by
    have ih := idx_one l c
    rw [Lib.index]
    by_cases h : b = c
    · subst h
      simp [nn, is]
    · have h1 : (List.isPrefixOf [c] (b :: l)) = false := by simp [List.isPrefixOf]; intro e; exact h e.symm
      have hne : ¬ (b.toNat : Int) = c.toNat := fun e => h (UInt8.toNat_inj.1 (by omega))
      rw [h1, ih]
      simp only [Bool.false_eq_true, if_false]
      have hm : ((c.toNat : Int) ∈ nn (b :: l)) ↔ ((c.toNat : Int) ∈ nn l) := by
        show (c.toNat : Int) ∈ (b.toNat : Int) :: nn l ↔ _
        rw [List.mem_cons]
        exact ⟨fun e => e.resolve_left (fun e => hne e.symm), .inr⟩
      have ht : (nn (b :: l)).takeWhile (is c.toNat) = (b.toNat : Int) :: (nn l).takeWhile (is c.toNat) := by
        show ((b.toNat : Int) :: nn l).takeWhile _ = _
        rw [List.takeWhile_cons, if_pos (by unfold is; simpa using hne)]
      by_cases hi : (c.toNat : Int) ∈ nn l
      · rw [if_pos hi, if_pos (hm.2 hi), ht, List.length_cons]
        rw [if_neg (by simp)]
        simp
      · rw [if_neg hi, if_neg (fun e => hi (hm.1 e))]; rfl
theorem cut_one (l : List UInt8) (c : UInt8) : nn (Lib.cut l [c]).1 = (nn l).takeWhile (is c.toNat) ∧ nn (Lib.cut l [c]).2.1 = ((nn l).dropWhile (is c.toNat)).drop 1 ∧ (Lib.cut l [c]).2.2 = decide ((c.toNat : Int) ∈ nn l) := by
  unfold Lib.cut
  rw [idx_one]
  by_cases h : (c.toNat : Int) ∈ nn l
  · rw [if_pos h, if_pos (by omega)]
    simp only [Int.toNat_natCast, List.length_singleton]
    obtain ⟨q, hq⟩ : ∃ q, q = (nn l).takeWhile (is c.toNat) := ⟨_, rfl⟩
    obtain ⟨r, hr⟩ : ∃ r, r = (nn l).dropWhile (is c.toNat) := ⟨_, rfl⟩
    have e : nn l = q ++ r := by rw [hq, hr]; exact (List.takeWhile_append_dropWhile).symm
    rw [← hq, ← hr]
    refine ⟨?_, ?_, by simp [h]⟩
    · rw [nn_take, e, List.take_left]
    · rw [nn_drop, e, List.drop_append, List.drop_eq_nil_of_le (by omega)]
      simp
  · rw [if_neg h, if_neg (by omega)]
    have hall : ∀ x ∈ nn l, is c.toNat x = true := fun x hx => by
      unfold is; simp only [decide_eq_true_eq]
      intro e; exact h (e ▸ hx)
    refine ⟨(tw_all hall).1.symm, ?_, by simp [h]⟩
    rw [(tw_all hall).2]; rfl
theorem val_D : ∀ (n : Nat) (l : List UInt8), l.length ≤ n → Lib.validGoD n l = val (nn l)
  | 0, l, h => by
    have : l = [] := List.length_eq_zero_iff.1 (by omega)
    subst this
    rfl
  | n + 1, l, h => by
    rw [Lib.validGoD]
    by_cases hl : l = []
    · subst hl; rfl
    rw [if_neg hl]
    have hs : 0 < (⟨l.toArray⟩ : ByteArray).size := by
      show 0 < l.toArray.size
      rw [List.size_toArray]
      exact List.length_pos_iff.2 hl
    have hd := dec_nx ⟨l.toArray⟩ 0 hs
    rw [List.drop_zero, bn_arr] at hd
    have hB : Bytes (nn l) := by rw [← bn_arr]; exact U.bn_bytes _
    have hne : nn l ≠ [] := by simpa [nn] using hl
    have hn := U.nx_n (nn l) hne
    rw [U.val_cons _ hne hB]
    show (if ((Utf8.decode ⟨l.toArray⟩ 0).1 = 65533 ∧ (Utf8.decode ⟨l.toArray⟩ 0).2 = 1) then false else Lib.validGoD n (l.drop (Utf8.decode ⟨l.toArray⟩ 0).2)) = _
    rw [hd.2]
    by_cases hw : (nx (nn l)).2.2 = true
    · rw [if_pos hw] at hd ⊢
      have hsg := nx_sign hB hne hw
      rw [if_neg (by rintro ⟨a, b⟩; exact hsg ⟨by omega, b⟩), hw, Bool.true_and]
      rw [val_D n _ (by rw [List.length_drop]; omega), nn_drop]
    · rw [if_neg hw] at hd ⊢
      rw [if_pos ⟨by omega, rfl⟩]
      simp [hw]
theorem enc_Z {r : Int} (h : scal r = true) : Lib.encodeRuneZ r = enc r := by
  rw [scal_iff] at h
  unfold Lib.encodeRuneZ enc
  by_cases h1 : r < 128
  · rw [if_pos (by omega), if_pos h1]
  rw [if_neg (by omega), if_neg h1]
  by_cases h2 : r < 2048
  · rw [if_pos (by omega), if_pos h2]
  rw [if_neg (by omega), if_neg h2]
  by_cases h3 : r < 65536
  · rw [if_pos (by omega), if_pos h3]
  rw [if_neg (by omega), if_pos (by omega), if_neg h3]
/-- Bytes as cells. -/
def cl (l : List Int) : List Value := l.map fun x => .int .u8 x
theorem cl_app (a b : List Int) : cl (a ++ b) = cl a ++ cl b := List.map_append
theorem cl_len (a : List Int) : (cl a).length = a.length := List.length_map ..
theorem cl_rune {r : Int} (h : scal r = true) : Lib.runeCells r = cl (enc r) := by unfold Lib.runeCells cl; rw [enc_Z h]
theorem cl_str (s : ByteArray) : Lib.strCells s = cl (bn s) := by
  unfold Lib.strCells cl bn
  simp
theorem cl_byte (l : List UInt8) : Lib.byteCells l = cl (nn l) := by
  unfold Lib.byteCells cl nn
  simp
end Go.Proofs.YtphkdagapoonjaaDoor.Lx
