/- The document's Encode: the same answers. -/
import Derived.Test.YtpjbiapgkbooaaaBD
import Derived.Test.YtpjbiapgkbooaaaUQ
namespace Go.Proofs.Ytpjbiapgkbooaaa
open Go.RowKit U
set_option linter.unusedVariables false

def lst2 (l : List Int) (n : Int) : Int := (l.filter fun x => decide (n ≤ x)).foldl min 1114112
theorem lst2_least (l : List Int) (n : Int) (hl : ∀ x ∈ l, x ≤ 1114111) (hex : ∃ x ∈ l, n ≤ x) : IsLeast l n (lst2 l n) := by
  obtain ⟨h1, h2, h3⟩ := foldl_min (l.filter fun x => decide (n ≤ x)) 1114112
  have e : lst2 l n = (l.filter fun x => decide (n ≤ x)).foldl min 1114112 := rfl
  rw [← e] at h1 h2 h3
  obtain ⟨x, hx, hnx⟩ := hex
  have hxm : x ∈ l.filter fun x => decide (n ≤ x) := List.mem_filter.mpr ⟨hx, by simpa using hnx⟩
  have a1 := h2 x hxm
  have a2 := hl x hx
  have mem : lst2 l n ∈ l.filter fun x => decide (n ≤ x) := by
    rcases h3 with h3 | h3
    · omega
    · exact h3
  obtain ⟨m1, m2⟩ := List.mem_filter.mp mem
  refine ⟨m1, by simpa using m2, fun y hy hb => ?_⟩
  have := h2 y (List.mem_filter.mpr ⟨hy, by simpa using hb.1⟩)
  omega
theorem lst2_snoc (l : List Int) (n : Int) (k : Nat) (h : k < l.length) : lst2 (l.take (k + 1)) n = if n ≤ l[k]?.getD 0 ∧ l[k]?.getD 0 < lst2 (l.take k) n then l[k]?.getD 0 else lst2 (l.take k) n := by
  unfold lst2
  rw [take_snoc l k h, List.filter_append, List.foldl_append]
  by_cases hx : n ≤ l[k]?.getD 0
  · simp only [hx, List.filter_cons, decide_true, if_true, List.filter_nil, List.foldl_cons, List.foldl_nil, true_and]
    split <;> omega
  · simp [hx]

/-- Where the document's writing stands. -/
structure Rw (l : List Int) (base : Nat) (w wr : World) (v : Value) (k h dl bias : Nat) (n : Int) (j : Nat) : Prop where
  n0 : 128 ≤ n
  n1 : n ≤ 1114112
  ex : ∃ ds : List Nat, EI l n j dl ds ∧ (∀ d ∈ ds, d ≤ 71303231) ∧ h = (plain l).length + ds.length ∧ k ≤ 100 + 71303232 * ds.length ∧ k = (hd (plain l) ++ tx (plain l).length ds).length ∧ bias = bia (plain l).length ds ∧
    wr.ownsRow base 5 1 v k ((hd (plain l) ++ tx (plain l).length ds).map (Value.int .u8))
  be : Below base w wr
section
variable {l : List Int} {base : Nat} {w wr : World} {v : Value} {k h dl bias : Nat} {n : Int} {j : Nat}
theorem Rw.h_le (s : Rw l base w wr v k h dl bias n j) : h ≤ l.length ∧ h = (had l n j).length ∧ (plain l).length ≤ h := by
  obtain ⟨ds, e, _, hh, _⟩ := s.ex
  have := e.len
  have := had_le l n j
  omega
theorem Rw.dl_le (s : Rw l base w wr v k h dl bias n j) (hl : l.length ≤ 63) : dl ≤ 71303231 := by
  obtain ⟨ds, e, _⟩ := s.ex
  exact e.bound s.n1 hl
theorem Rw.k_le (s : Rw l base w wr v k h dl bias n j) (hl : l.length ≤ 63) : k ≤ 10000000000 ∧ bias ≤ 1000000000 := by
  have := s.h_le
  obtain ⟨ds, e, hd, hh, hk, _, hb, _⟩ := s.ex
  exact ⟨by omega, by rw [hb]; exact bia_le _ _ hd⟩
theorem Rw.less (s : Rw l base w wr v k h dl bias n j) (hj : j < l.length) (hx : l[j]?.getD 0 < n) : Rw l base w wr v k h (dl + 1) bias n (j + 1) := by
  obtain ⟨ds, e, r⟩ := s.ex
  exact ⟨s.n0, s.n1, ⟨ds, e.less hj hx, r⟩, s.be⟩
theorem Rw.more (s : Rw l base w wr v k h dl bias n j) (hj : j < l.length) (hx : n < l[j]?.getD 0) : Rw l base w wr v k h dl bias n (j + 1) := by
  obtain ⟨ds, e, r⟩ := s.ex
  exact ⟨s.n0, s.n1, ⟨ds, e.more hj hx, r⟩, s.be⟩
theorem Rw.pass (s : Rw l base w wr v k h dl bias n l.length) (hn : n ≤ 1114111) : Rw l base w wr v k h (dl + 1) bias (n + 1) 0 := by
  obtain ⟨ds, e, r⟩ := s.ex
  exact ⟨by have := s.n0; omega, by omega, ⟨ds, e.pass, r⟩, s.be⟩
theorem Rw.jump (s : Rw l base w wr v k h dl bias n 0) (m : Int) (hm : IsLeast l n m) (hl : ∀ x ∈ l, x ≤ 1114111) (D : Nat) (hD : (D : Int) = dl + (m - n) * ((h : Int) + 1)) : Rw l base w wr v k h D bias m 0 := by
  obtain ⟨-, hh, -⟩ := s.h_le
  obtain ⟨ds, e, r⟩ := s.ex
  have := hl m hm.1
  exact ⟨by have := s.n0; have := hm.2.1; omega, by omega, ⟨ds, e.jump hm.2.1 hm.2.2 D (by rw [← hh]; exact hD), r⟩, s.be⟩
theorem Rw.left (s : Rw l base w wr v k h dl bias n 0) (hl : h < l.length) : ∃ x ∈ l, n ≤ x := by
  obtain ⟨-, hh, -⟩ := s.h_le
  exact EI.left (dl := dl) (ds := []) (by omega)
/-- A number is written. -/
theorem Rw.put (s : Rw l base w wr v k h dl bias n j) (hlen : l.length ≤ 63) (hj : j < l.length) (hx : l[j]?.getD 0 = n) {X : List Int} (hX : X = hd (plain l) ++ tx (plain l).length (Classical.choose s.ex)) {w2 : World} {v2 : Value}
    (r2 : w2.ownsRow base 5 1 v2 (k + (wn bias 36 dl).length) ((X ++ wn bias 36 dl).map (Value.int .u8))) (b2 : Below base w w2) :
    Rw l base w w2 v2 (k + (wn bias 36 dl).length) (h + 1) 0 (adapt dl (h + 1) (decide (h = (plain l).length))) n (j + 1) := by
  have hdl := s.dl_le hlen
  have hc := Classical.choose_spec s.ex
  generalize Classical.choose s.ex = ds at *
  obtain ⟨e, hds, hh2, hk, hkl, hb, hr⟩ := hc
  have hw := wn_le bias 36 dl
  refine ⟨s.n0, s.n1, ⟨dl :: ds, e.put hj hx, ?_, by rw [List.length_cons]; omega, by rw [List.length_cons]; omega, ?_, ?_, ?_⟩, b2⟩
  · intro d hd
    rcases List.mem_cons.mp hd with rfl | hd
    · exact hdl
    · exact hds d hd
  · rw [hkl, tx, ← List.append_assoc, List.length_append (bs := wn _ _ _), hb]
  · rw [bia, hh2]
    congr 1
    cases ds with
    | nil => simp
    | cons d ds => simp
  · rw [tx, ← List.append_assoc, ← hX, ← hb]; exact r2
theorem Rw.fin (s : Rw l base w wr v k h dl bias n 0) (hl : l.length ≤ h) (h0 : ∀ x ∈ l, 0 ≤ x) : ∃ T, (convert 34 9 v).run Try.prog wr = .ok (.string T) wr ∧ Enc l (bn T) ∧ T.size = k := by
  obtain ⟨-, hh, -⟩ := s.h_le
  obtain ⟨ds, e, _, hh2, hk, hkl, _, hr⟩ := s.ex
  have E : Enc l (hd (plain l) ++ tx (plain l).length ds) := ⟨ds, rfl, e.fin (by omega)⟩
  obtain ⟨T, h1, h2⟩ := conv_string wr base v k (hd (plain l) ++ tx (plain l).length ds) hkl (fun c hc => by have := E.ascii h0 c hc; omega) hr
  exact ⟨T, h1, by rw [h2]; exact E, by rw [← bn_length, h2, hkl]⟩
end
end Go.Proofs.Ytpjbiapgkbooaaa
