/- What a slice of code points that came in leads to. -/
import Derived.Test.YtpjbiapgkbooaaaUG
import Derived.OpenShut
namespace Go.Proofs.Ytpjbiapgkbooaaa.U
open Go.RowKit

/-- A slice of integers that came in: nil, or a row of cap cells that hold zs, the first len of them its elements. -/
def IsRow (k : IntKind) (w : World) (a : Option Addr) (len cap : Nat) (zs : List Int) : Prop :=
  (a = none ∧ len = 0 ∧ cap = 0 ∧ zs = []) ∨
  ∃ x, a = some x ∧ len ≤ cap ∧ cap ≤ maxLen ∧ zs.length = cap ∧ (∀ i, i < zs.length → w.cell? (x.add i) = some (.int k (zs.getD i 0))) ∧ ∀ n ∈ zs, (Lit.int k n).wf = true

theorem row_max {k : IntKind} {w : World} {a : Option Addr} {len cap : Nat} {zs : List Int} (h : IsRow k w a len cap zs) : len ≤ maxLen := by
  rcases h with ⟨_, rfl, _, rfl⟩ | ⟨x, _, hl, hm, _⟩
  · exact Nat.zero_le _
  · omega
theorem row_len {k : IntKind} {w : World} {a : Option Addr} {len cap : Nat} {zs : List Int} (h : IsRow k w a len cap zs) : (zs.take len).length = len := by
  rcases h with ⟨_, rfl, _, rfl⟩ | ⟨x, _, hl, _, hz, _⟩
  · rfl
  · rw [List.length_take]; omega
theorem take_get (zs : List Int) (len j : Nat) (hj : j < (zs.take len).length) : (zs.take len)[j]?.getD 0 = zs.getD j 0 := by
  rw [List.length_take] at hj
  rw [List.getElem?_take, if_pos (by omega)]; simp
theorem row_src {w : World} {a : Option Addr} {len cap : Nat} {zs : List Int} (h : IsRow .i32 w a len cap zs) : SrcInts w (.slice a len cap) (zs.take len) := by
  have hlen := row_len h
  rcases h with ⟨rfl, rfl, rfl, rfl⟩ | ⟨x, rfl, hl, _, hz, hc, _⟩
  · exact .inl ⟨rfl, rfl⟩
  · refine .inr ⟨x, cap, by rw [hlen], fun j hj => ?_⟩
    rw [take_get zs len j hj]
    exact hc j (by rw [hlen] at hj; omega)
theorem row_ints {w : World} {a : Option Addr} {len cap : Nat} {zs : List Int} (h : IsRow .i32 w a len cap zs) : IntsAt w (.slice a len cap) (zs.take len) := by
  have hlen := row_len h
  rcases h with ⟨rfl, rfl, rfl, rfl⟩ | ⟨x, rfl, hl, _, hz, hc, _⟩
  · exact .inl ⟨rfl, _, _, rfl⟩
  · by_cases h0 : len = 0
    · subst h0; exact .inl ⟨rfl, _, _, rfl⟩
    · obtain ⟨b, off, rfl, hc'⟩ := ints_at hc (by omega)
      refine .inr ⟨by omega, b, off, cap, by rw [hlen], fun j hj => ?_⟩
      rw [take_get zs len j hj]
      exact hc' j (by rw [hlen] at hj; omega)
end Go.Proofs.Ytpjbiapgkbooaaa.U
