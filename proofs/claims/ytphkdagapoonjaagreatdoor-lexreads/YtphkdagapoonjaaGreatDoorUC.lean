/- The contract of utf.Clean: the bytes of what stands in its bytes. -/
import Derived.Test.YtphkdagapoonjaaGreatDoorUI
import Derived.Test.YtphkdagapoonjaaGreatDoorUP
import Derived.Test.YtphkdagapoonjaaGreatDoorUD
import Derived.Laws.IdiomStrings
import Derived.Laws.OwnMore
namespace Go.Proofs.YtphkdagapoonjaaGreatDoor.U
open Go.RowKit Go.Shelf
attribute [local go_sem] Oper.semAt_some

/-- The bytes of code points, one behind the other. -/
def encs (l : List Int) : List Int := l.flatMap enc
theorem encs_snoc (l : List Int) (x : Int) : encs (l ++ [x]) = encs l ++ enc x := by simp [encs]
theorem encs_len (l : List Int) : (encs l).length ≤ 4 * l.length := by
  induction l with
  | nil => simp [encs]
  | cons a t ih =>
    have := enc_len a
    simp only [encs, List.flatMap_cons, List.length_append, List.length_cons] at *
    omega

theorem enc_bytes (c : Int) (h0 : 0 ≤ c) (h1 : c ≤ 1114111) : Bytes (enc c) := by
  intro b hb
  unfold enc at hb
  by_cases q1 : c < 128
  · rw [if_pos q1] at hb; simp at hb; omega
  · rw [if_neg q1] at hb
    by_cases q2 : c < 2048
    · rw [if_pos q2] at hb; simp at hb; omega
    · rw [if_neg q2] at hb
      by_cases q3 : c < 65536
      · rw [if_pos q3] at hb; simp at hb; omega
      · rw [if_neg q3] at hb; simp at hb; omega
theorem encs_bytes (l : List Int) (h : ∀ c ∈ l, 0 ≤ c ∧ c ≤ 1114111) : Bytes (encs l) := by
  intro b hb
  obtain ⟨c, hc, hbc⟩ := List.mem_flatMap.1 hb
  exact enc_bytes c (h c hc).1 (h c hc).2 b hbc
theorem fsts_bd (l : List Sc) : ∀ c ∈ fsts l, 0 ≤ c ∧ c ≤ 1114111 := by
  intro c hc
  obtain ⟨x, _, rfl⟩ := List.mem_map.1 hc
  exact x.2
theorem bytes_back (ns : List Int) (h : Bytes ns) : (ns.map fun n => UInt8.ofNat n.toNat).map (fun c => (c.toNat : Int)) = ns := by
  rw [List.map_map]
  conv => rhs; rw [← List.map_id ns]
  apply List.map_congr_left
  intro a ha
  have := h a ha
  simp only [Function.comp, id, UInt8.toNat_ofNat']
  omega
theorem addr_add0 (g j : Nat) : ((⟨g, 0, none⟩ : Addr).add j) = ⟨g, j, none⟩ := by
  simp [Addr.add]; exact fun h => h.symm

/-- A conversion of owned bytes to a string. -/
theorem conv_string (w : World) (base : Nat) (v : Value) (n : Nat) (ns : List Int) (hn : n = ns.length) (hb : Bytes ns) (hrow : w.ownsRow base 5 1 v n (ns.map (Value.int .u8))) :
    ∃ t : ByteArray, (convert 49 9 v).run Tryz.prog w = .ok (.string t) w ∧ bn t = ns := by
  subst hn
  rcases id hrow.2 with ⟨rfl, h0⟩ | ⟨g, cap, cur, rfl, _⟩
  · refine ⟨⟨#[]⟩, ?_, ?_⟩
    · rw [run_convert_bytes_string w 49 9 5 none 0 0 Tryz.underlying49 Tryz.underlying5 Tryz.underlying9]
      simp [Conv.bytesToString]
      rfl
    · rw [List.length_eq_zero_iff.1 h0]; rfl
  · refine ⟨⟨(ns.map fun n => UInt8.ofNat n.toNat).toArray⟩, ?_, ?_⟩
    · have := run_convert_bytes_back (P := Tryz.prog) w 49 9 5 ⟨g, 0, none⟩ cap (ns.map fun n => UInt8.ofNat n.toNat) Tryz.underlying49 Tryz.underlying5 Tryz.underlying9 (by
        intro j hj
        rw [addr_add0, hrow.cellAt j (by simpa using hj)]
        have hj' : j < ns.length := by simpa using hj
        have hbj := hb ns[j] (List.getElem_mem hj')
        rw [List.getElem?_map, List.getElem?_eq_getElem hj']
        simp only [Option.map_some, List.getElem_map, UInt8.toNat_ofNat']
        congr 2
        omega)
      rw [List.length_map] at this
      exact this
    · unfold bn
      simp only
      exact bytes_back ns hb

theorem boxed_called {W w1 : World} {n₀ B : Nat} {t e : TypeId} {size : Nat} {v v' : Value} {k m : Nat} {xs ys : List Value}
    (hv : Boxed W B t v) (hte : t ≠ e) (hrow : W.ownsRow n₀ e size v k xs) (hn₀ : n₀ ≤ W.heap.size) (hB : n₀ ≤ B)
    (hown' : w1.ownsRow n₀ e size v' m ys) (hgrow : W.grownBy w1 v.ownBlock) :
    Boxed w1 B t v ∧ Boxed (w1.setCell ⟨B, 0, none⟩ v') B t v' ∧ (w1.setCell ⟨B, 0, none⟩ v').ownsRow n₀ e size v' m ys ∧ KeepsOthers W (w1.setCell ⟨B, 0, none⟩ v') ∧ Below n₀ W (w1.setCell ⟨B, 0, none⟩ v') := by
  have hv1 : Boxed w1 B t v := hv.kept hgrow (hv.not_row hte hrow)
  refine ⟨hv1, hv1.set v', hown'.kept (grownBy_setCell' w1 B v') (.inr (hv1.not_row hte hown').symm), ?_, ?_⟩
  · refine (KeepsOthers.of_grownBy hgrow fun j o ej hj => ?_).trans (KeepsOthers.setCell _ _ _)
    rcases hrow.2 with ⟨rfl, _⟩ | ⟨g, cap, cur, rfl, _, hgb, _⟩
    · simp [Value.ownBlock] at ej
    · obtain rfl : g = j := by simpa [Value.ownBlock] using ej
      rw [hgb] at hj; cases hj; rfl
  · refine ((Below.refl n₀ W).grown hgrow hn₀ fun j ej => ?_).setCell (p := ⟨B, 0, none⟩) hB v'
    rcases hrow.2 with ⟨rfl, _⟩ | ⟨g, cap, cur, rfl, hb, _, _⟩
    · simp [Value.ownBlock] at ej
    · obtain rfl : g = j := by simpa [Value.ownBlock] using ej
      exact hb

end Go.Proofs.YtphkdagapoonjaaGreatDoor.U
