/- Plain: where a token stands in a text, there it is read. (Stage 15.) -/
import Derived.Test.YtphkdagapoonjaaDoorLXF
namespace Go.Proofs.YtphkdagapoonjaaDoor.Lx
open Go.Proofs.YtphkdagapoonjaaDoor.U (nx enc encs scal Bytes)
set_option linter.unusedVariables false

/-- The pieces between the bytes 10. -/
def pc : List Int → Nat → List Int
  | s, 0 => s.takeWhile no10
  | s, k + 1 => pc ((s.dropWhile no10).drop 1) k
theorem line_vis {l : List Int} {n : Nat} (h : (line l n).2.1 = 0) : ∀ d ∈ l, d ≠ 13 := by
  intro d hd
  unfold line at h
  cases h1 : bd l with
  | some k => rw [h1] at h; simp at h
  | none =>
    rw [h1] at h
    simp only at h
    cases h2 : pb l with
    | some k => rw [h2] at h; simp at h
    | none =>
      unfold pb at h2
      rw [List.findIdx?_eq_none_iff] at h2
      have := h2 d hd
      simp at this; omega
/-- A piece and its line: the 13 at its end counts for nothing. -/
theorem fl_pc (s : List Int) : pc s 0 = fl s ∨ pc s 0 = fl s ++ [13] := by
  unfold fl pc
  by_cases e : s.dropWhile no10 = []
  · left
    rw [if_pos e]
    have := List.takeWhile_append_dropWhile (p := no10) (l := s)
    rw [e, List.append_nil] at this
    exact this
  · rw [if_neg e]
    unfold strip
    by_cases h : (s.takeWhile no10).getLast? = some 13
    · right
      rw [if_pos h]
      have hne : s.takeWhile no10 ≠ [] := fun h0 => by rw [h0] at h; cases h
      have h2 : (s.takeWhile no10).getLast hne = 13 := by
        rw [List.getLast?_eq_some_getLast hne] at h
        exact Option.some.inj h
      rw [← h2, List.dropLast_concat_getLast hne]
    · left
      rw [if_neg h]
theorem pc_no10 : ∀ (k : Nat) (s : List Int), ∀ d ∈ pc s k, d ≠ 10 ∧ d ∈ s
  | 0, s, d, hd => by
    obtain ⟨a, b⟩ := takeW_mem hd
    exact ⟨by unfold no10 at a; simpa using a, b⟩
  | k + 1, s, d, hd => by
    obtain ⟨a, b⟩ := pc_no10 k _ d hd
    exact ⟨a, dropW_mem (List.mem_of_mem_drop b)⟩
theorem pc_len : ∀ (k : Nat) (s : List Int), (pc s k).length ≤ s.length
  | 0, s => by
    have := dropW_len (p := no10) s
    show (s.takeWhile no10).length ≤ _
    omega
  | k + 1, s => by
    have h1 := pc_len k ((s.dropWhile no10).drop 1)
    have := dropW_len (p := no10) s
    rw [List.length_drop] at h1
    show (pc ((s.dropWhile no10).drop 1) k).length ≤ _
    omega
/-- One line, with its end, read by itself. -/
theorem lex_one {q l : List Int} {o : List Tk} (hq : q = l ∨ q = l ++ [13]) (h10 : ∀ d ∈ q, d ≠ 10) (h13 : ∀ d ∈ l, d ≠ 13) (hl : q.length < 65536) (h : line l 1 = (o, 0, 0, 0)) : lex (q ++ [10]) = (o, 0, 0, 0) := by
  obtain ⟨t1, t2⟩ := take_no10 (a := q) (b := []) h10
  have hfl : fl (q ++ [10]) = l := by
    unfold fl
    rw [t1, t2, if_neg (by simp)]
    rcases hq with rfl | rfl
    · exact strip_vis h13
    · unfold strip
      rw [if_pos (by simp)]
      simp
  unfold lex
  rw [if_neg (by simp; omega), List.length_append, List.length_singleton, lexF, if_neg (by simp), hfl, t2, h]
  simp only [ne_eq, not_true_eq_false, if_false, List.drop_succ_cons, List.drop_zero, List.nil_append]
  exact lexF_nil _ _ _
theorem pc_step {s : List Int} {a b : Nat} (h : a = b + 1) : pc s a = pc ((s.dropWhile no10).drop 1) b := by rw [h]; rfl
/-- A token at its place. -/
def At (s : List Int) (n : Nat) (t : Tk) : Prop := n ≤ t.n ∧ t.a ≤ (pc s (t.n - n)).length ∧ (t.k = 5 ∧ ((pc s (t.n - n)).drop t.a = [] ∨ (pc s (t.n - n)).drop t.a = [13]) ∨ t.k ≠ 5 ∧ ∃ r, lex ((pc s (t.n - n)).drop t.a ++ [10]) = (⟨t.k, t.x, 1, 0⟩ :: r, 0, 0, 0))
theorem lexF_places : ∀ (f : Nat) (s : List Int) (o : List Tk) (n : Nat), Bytes s → s.length ≤ f → s.length < 65536 → (lexF f o s n).2.1 = 0 → ∃ r, (lexF f o s n).1 = o ++ r ∧ ∀ t ∈ r, At s n t
  | 0, s, o, n, _, _, _, _ => ⟨[], by simp [lexF], fun t ht => (by cases ht)⟩
  | f + 1, s, o, n, hb, hf, h6, h => by
    by_cases hs : s = []
    · rw [lexF, if_pos hs]
      exact ⟨[], by simp, fun t ht => (by cases ht)⟩
    · rw [lexF, if_neg hs] at h ⊢
      obtain ⟨l1, l2, l3, l4⟩ := fl_len hs
      by_cases hl : (line (fl s) n).2.1 ≠ 0
      · rw [if_pos hl] at h; exact absurd h hl
      · rw [if_neg hl] at h ⊢
        have hl0 := Classical.byContradiction hl
        obtain ⟨r, a1, a2⟩ := lexF_places f _ (o ++ (line (fl s) n).1) (n + 1) (fun d hd => hb d (l4 d hd)) (by omega) (by omega) h
        refine ⟨(line (fl s) n).1 ++ r, by rw [a1]; simp, fun t ht => ?_⟩
        rcases List.mem_append.1 ht with ht | ht
        · obtain ⟨b1, b2, b3⟩ := line_places (fun d hd => hb d (l3 d hd)) n hl0 t ht
          have hpc := fl_pc s
          unfold At
          rw [b1, Nat.sub_self]
          have hd : (pc s 0).drop t.a = (fl s).drop t.a ∨ (pc s 0).drop t.a = (fl s).drop t.a ++ [13] := by
            rcases hpc with e | e
            · left; rw [e]
            · right; rw [e, List.drop_append_of_le_length b2]
          refine ⟨Nat.le_refl _, ?_, ?_⟩
          · rcases hpc with e | e <;> rw [e]
            · exact b2
            · rw [List.length_append]; omega
          · rcases b3 with ⟨c1, c2, c3⟩ | ⟨c1, q, c2⟩
            · left
              rw [c3, List.drop_length] at hd
              rw [c3]
              exact ⟨c1, hd⟩
            · right
              refine ⟨c1, q, lex_one hd (fun d hd' => (pc_no10 0 s d (List.mem_of_mem_drop hd')).1) (fun d hd' => line_vis hl0 d (List.mem_of_mem_drop hd')) ?_ c2⟩
              have := pc_len 0 s
              rw [List.length_drop]
              omega
        · obtain ⟨b1, b2⟩ := a2 t ht
          unfold At
          rw [pc_step (s := s) (show t.n - n = (t.n - (n + 1)) + 1 by omega)]
          exact ⟨by omega, b2⟩
/-- Where a token stands, there it is read. -/
theorem lex_places {s : List Int} (hb : Bytes s) (h6 : s.length < 65536) (h : (lex s).2.1 = 0) : ∀ t ∈ (lex s).1, At s 1 t := by
  unfold lex at h ⊢
  rw [if_neg (by omega)] at h ⊢
  obtain ⟨r, a, b⟩ := lexF_places s.length s [] 1 hb (Nat.le_refl _) h6 h
  rw [a, List.nil_append]
  exact b
end Go.Proofs.YtphkdagapoonjaaDoor.Lx
