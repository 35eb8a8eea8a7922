import Derived.Test.YtacbfbhhhofifaaDoorHXA
/- Plain: what is written as the grammar has it is read as itself. (Stage 19.) -/
namespace Go.Proofs.YtacbfbhhhofifaaDoor.Hd
set_option linter.unusedVariables false

theorem tw {p : Int → Bool} : ∀ {a : List Int} (c : Int) (r : List Int), (∀ x ∈ a, p x = true) → p c = false → (a ++ c :: r).takeWhile p = a ∧ (a ++ c :: r).dropWhile p = c :: r
  | [], c, r, _, hc => by rw [List.nil_append, List.takeWhile_cons_of_neg (by simp [hc]), List.dropWhile_cons_of_neg (by simp [hc])]; exact ⟨rfl, rfl⟩
  | x :: a, c, r, h, hc => by
    obtain ⟨e1, e2⟩ := tw (a := a) c r (fun y hy => h y (List.mem_cons_of_mem _ hy)) hc
    have hx := h x (List.mem_cons_self ..)
    rw [List.cons_append, List.takeWhile_cons_of_pos hx, List.dropWhile_cons_of_pos hx, e1, e2]
    exact ⟨rfl, rfl⟩
theorem tc_not {c : Int} (h : tc c = true) : c ≠ 32 ∧ c ≠ 58 ∧ c ≠ 10 ∧ c ≠ 13 := by
  refine ⟨?_, ?_, ?_, ?_⟩ <;> (rintro rfl; revert h; decide)
theorem tok_all {l : List Int} (h : tok l = true) : l ≠ [] ∧ ∀ c ∈ l, tc c = true := by
  unfold tok at h
  rw [Bool.and_eq_true, List.all_eq_true] at h
  exact ⟨fun e => by rw [e] at h; simp at h, h.2⟩
/-- A first line, written. -/
def wm (h : H) : List Int := h.m ++ 32 :: (h.t ++ 32 :: [72, 84, 84, 80, 47, 49, 46, 48 + h.v])
theorem frst_wm {h : H} (hm : tok h.m = true) (ht : h.t ≠ []) (hv : h.t.all vis = true) (h0 : 0 ≤ h.v) (h1 : h.v ≤ 1) : frst (wm h) = (⟨h.m, h.t, h.v, []⟩, 0) := by
  obtain ⟨e1, e2⟩ := tw (p := nb 32) (a := h.m) 32 (h.t ++ 32 :: [72, 84, 84, 80, 47, 49, 46, 48 + h.v]) (fun x hx => by unfold nb; exact decide_eq_true (tc_not ((tok_all hm).2 x hx)).1) (by decide)
  obtain ⟨e3, e4⟩ := tw (p := nb 32) (a := h.t) 32 [72, 84, 84, 80, 47, 49, 46, 48 + h.v] (fun x hx => by
    have := List.all_eq_true.1 hv x hx
    unfold vis at this
    have := of_decide_eq_true this
    unfold nb; exact decide_eq_true (by omega)) (by decide)
  unfold frst wm
  simp only [e1, e2, List.drop_succ_cons, List.drop_zero, e3, e4]
  have hd : dig (48 + h.v) = true := by unfold dig; exact decide_eq_true (by omega)
  rw [if_neg (by simp [ht, hm, hv]), if_pos ⟨rfl, rfl, rfl, rfl, hd⟩, if_pos ⟨rfl, by show 48 + h.v ≤ 49; omega⟩]
  congr 2
  show 48 + h.v - 48 = h.v
  omega
theorem bl_app : ∀ {b : List Int} (x : List Int), (∀ c ∈ b, bl c = true) → (b ++ x).dropWhile bl = x.dropWhile bl
  | [], x, _ => rfl
  | c :: b, x, h => by rw [List.cons_append, List.dropWhile_cons_of_pos (h c (List.mem_cons_self ..)), bl_app x (fun y hy => h y (List.mem_cons_of_mem _ hy))]
theorem bl_all : ∀ {l : List Int}, l.dropWhile bl = [] → ∀ c ∈ l, bl c = true
  | [], _, c, hc => by cases hc
  | a :: l, h, c, hc => by
    by_cases ha : bl a = true
    · rw [List.dropWhile_cons_of_pos ha] at h
      rcases List.mem_cons.1 hc with rfl | hc
      · exact ha
      · exact bl_all h c hc
    · rw [List.dropWhile_cons_of_neg ha] at h; cases h
theorem bl_front : ∀ {l : List Int} (x : List Int), l.dropWhile bl ≠ [] → (l ++ x).dropWhile bl = l.dropWhile bl ++ x
  | [], x, h => absurd rfl h
  | a :: l, x, h => by
    by_cases ha : bl a = true
    · rw [List.dropWhile_cons_of_pos ha] at h ⊢
      rw [List.cons_append, List.dropWhile_cons_of_pos ha, bl_front x h]
    · rw [List.cons_append, List.dropWhile_cons_of_neg ha, List.dropWhile_cons_of_neg ha]; rfl
/-- Blanks about a text change nothing. -/
theorem trm_pad {b b' : List Int} (h : ∀ c ∈ b, bl c = true) (h' : ∀ c ∈ b', bl c = true) (l : List Int) : trm (b ++ (l ++ b')) = trm l := by
  unfold trm
  rw [bl_app _ h]
  by_cases hl : l.dropWhile bl = []
  · have e : (l ++ b').dropWhile bl = [] := by
      rw [bl_app _ (bl_all hl)]
      have := bl_app (b := b') [] h'
      rw [List.append_nil] at this
      rw [this]; rfl
    rw [e, hl]
  · rw [bl_front _ hl, List.reverse_append, bl_app _ (fun c hc => h' c (List.mem_reverse.1 hc))]
/-- What it means that a field's line is read as itself. -/
theorem fld_own {a v : List Int} (h : fld (a ++ 58 :: v) = some (a, v)) : tok a = true ∧ sml a = a ∧ v.all vc = true ∧ trm v = v := by
  unfold fld at h
  simp only at h
  split at h
  · cases h
  rename_i hn
  injection h with h
  obtain ⟨e1, e2⟩ := Prod.mk.inj h
  have hlen := congrArg List.length e1
  unfold sml at hlen
  rw [List.length_map] at hlen
  have key : ∀ (a v : List Int), ((a ++ 58 :: v).takeWhile (nb 58)).length = a.length → ∀ c ∈ a, nb 58 c = true := by
    intro a
    induction a with
    | nil => intro v _ c hc; cases hc
    | cons x a ih =>
      intro v hl c hc
      by_cases hx : nb 58 x = true
      · rw [List.cons_append, List.takeWhile_cons_of_pos hx, List.length_cons, List.length_cons] at hl
        rcases List.mem_cons.1 hc with rfl | hc
        · exact hx
        · exact ih v (by omega) c hc
      · rw [List.cons_append, List.takeWhile_cons_of_neg hx] at hl; simp at hl
  obtain ⟨t1, t2⟩ := tw (p := nb 58) (a := a) 58 v (key a v hlen) (by decide)
  rw [t1] at e1
  rw [t2] at e2
  rw [t1, t2] at hn
  simp only [List.drop_succ_cons, List.drop_zero] at e2 hn
  refine ⟨?_, e1, ?_, e2⟩
  · cases ht : tok a with
    | true => rfl
    | false => exact absurd (.inr (.inl ht)) hn
  · cases ht : v.all vc with
    | true => rfl
    | false => exact absurd (.inr (.inr ht)) hn
theorem fld_pad {a v b : List Int} (h : fld (a ++ 58 :: v) = some (a, v)) (hb : ∀ c ∈ b, bl c = true) : fld (a ++ 58 :: (b ++ (v ++ b))) = some (a, v) := by
  obtain ⟨h1, h2, h3, h4⟩ := fld_own h
  obtain ⟨t1, t2⟩ := tw (p := nb 58) (a := a) 58 (b ++ (v ++ b)) (fun x hx => by unfold nb; exact decide_eq_true (tc_not ((tok_all h1).2 x hx)).2.1) (by decide)
  have hv : (b ++ (v ++ b)).all vc = true := by
    have hbv : b.all vc = true := List.all_eq_true.2 (fun c hc => by
      have := of_decide_eq_true (hb c hc)
      unfold vc; exact decide_eq_true (by omega))
    rw [List.all_append, List.all_append, h3, hbv]; rfl
  unfold fld
  simp only [t1, t2, List.drop_succ_cons, List.drop_zero]
  rw [if_neg (by simp only [h1, hv]; simp), h2, trm_pad hb hb, h4]
/-- The lines of fields, written, with blanks about their values. -/
def wf : List (List Int × List Int × List Int) → List Int
  | [] => []
  | x :: r => (x.1 ++ 58 :: (x.2.2 ++ (x.2.1 ++ x.2.2))) ++ [13, 10] ++ wf r
def good (x : List Int × List Int × List Int) : Prop := fld (x.1 ++ 58 :: x.2.1) = some (x.1, x.2.1) ∧ (∀ c ∈ x.2.2, bl c = true) ∧ x.1.length + x.2.1.length ≤ 300 ∧ x.2.2.length ≤ 3
theorem good_line {x : List Int × List Int × List Int} (h : good x) : (∀ c ∈ x.1 ++ 58 :: (x.2.2 ++ (x.2.1 ++ x.2.2)), c ≠ 10 ∧ c ≠ 13) ∧ (x.1 ++ 58 :: (x.2.2 ++ (x.2.1 ++ x.2.2))).length ≤ 307 ∧ x.1 ++ 58 :: (x.2.2 ++ (x.2.1 ++ x.2.2)) ≠ [] := by
  obtain ⟨h1, h2, h3, h4⟩ := h
  obtain ⟨g1, _, g3, _⟩ := fld_own h1
  have hb : ∀ c ∈ x.2.2, c ≠ 10 ∧ c ≠ 13 := fun c hc => by have := of_decide_eq_true (h2 c hc); omega
  refine ⟨fun c hc => ?_, by simp only [List.length_append, List.length_cons]; omega, by simp⟩
  rcases List.mem_append.1 hc with hc | hc
  · have := tc_not ((tok_all g1).2 c hc); exact ⟨this.2.2.1, this.2.2.2⟩
  · rcases List.mem_cons.1 hc with rfl | hc
    · decide
    · rcases List.mem_append.1 hc with hc | hc
      · exact hb c hc
      · rcases List.mem_append.1 hc with hc | hc
        · have := of_decide_eq_true (List.all_eq_true.1 g3 c hc); omega
        · exact hb c hc
theorem go_fields : ∀ (r : List (List Int × List Int × List Int)) (s : St), s.cur = [] → s.d = false → s.e = 0 → s.is = true → (∀ x ∈ r, good x) → s.h.f.length + r.length ≤ 64 → s.n + (wf r).length ≤ 16384 →
    go s (wf r) = { s with n := s.n + (wf r).length, h := { s.h with f := s.h.f ++ r.map fun x => (x.1, x.2.1) } }
  | [], s, _, _, _, _, _, _, _ => by rw [wf, go]; simp
  | x :: r, s, hc, hd, he, hi, hg, hl, hn => by
    have g := hg x (List.mem_cons_self ..)
    obtain ⟨g1, g2, g3⟩ := good_line g
    rw [List.length_cons] at hl
    have hw : (wf (x :: r)).length = (x.1 ++ 58 :: (x.2.2 ++ (x.2.1 ++ x.2.2))).length + 2 + (wf r).length := by rw [wf, List.length_append, List.length_append]; rfl
    rw [hw] at hn ⊢
    rw [wf, go_append, go_ends _ s hc hd he g1 (by omega) (by omega)]
    unfold fin
    simp only
    rw [if_neg (by simp [hi]), if_neg (by simp [hi]), if_neg g3, if_neg (by omega), fld_pad g.1 g.2.1]
    simp only
    rw [go_fields r { cur := [], blk := s.blk, is := s.is, h := { m := s.h.m, t := s.h.t, v := s.h.v, f := s.h.f ++ [(x.1, x.2.1)] }, n := s.n + (x.1 ++ 58 :: (x.2.2 ++ (x.2.1 ++ x.2.2))).length + 2, d := s.d, e := s.e } rfl hd he hi (fun y hy => hg y (List.mem_cons_of_mem _ hy)) (by simp only [List.length_append, List.length_cons, List.length_nil]; omega) (by simp only; omega)]
    simp only [List.append_assoc, List.map_cons, List.cons_append, List.nil_append, hc]
    congr 1
    omega
/-- A head as the grammar has it is read as itself, whatever stands behind it. -/
theorem go_writes {h : H} {r : List (List Int × List Int × List Int)} (hm : tok h.m = true) (ht : h.t ≠ []) (hv : h.t.all vis = true) (h0 : 0 ≤ h.v) (h1 : h.v ≤ 1) (hf : h.f = r.map fun x => (x.1, x.2.1)) (hg : ∀ x ∈ r, good x) (hr : r.length ≤ 20) (hl : h.m.length + h.t.length ≤ 1000) (rest : List Int) :
    ∃ s, go s0 ((wm h ++ [13, 10] ++ wf r ++ [13, 10]) ++ rest) = s ∧ s.d = true ∧ s.e = 0 ∧ s.h = h ∧ s.n = (wm h ++ [13, 10] ++ wf r ++ [13, 10]).length := by
  have lw : ∀ r : List (List Int × List Int × List Int), (∀ x ∈ r, good x) → (wf r).length ≤ 309 * r.length := by
    intro r
    induction r with
    | nil => intro _; simp [wf]
    | cons x r ih =>
      intro hg
      have a := (good_line (hg x (List.mem_cons_self ..))).2.1
      have b := ih (fun y hy => hg y (List.mem_cons_of_mem _ hy))
      have e3 : (x :: r).length = r.length + 1 := rfl
      rw [wf, List.length_append, List.length_append, e3]
      show _ + 2 + _ ≤ _
      omega
  have lwr := lw r hg
  have lm : (wm h).length = h.m.length + h.t.length + 10 := by unfold wm; simp only [List.length_append, List.length_cons, List.length_nil]; omega
  have cm : ∀ c ∈ wm h, c ≠ 10 ∧ c ≠ 13 := by
    intro c hc
    unfold wm at hc
    rcases List.mem_append.1 hc with hc | hc
    · have := tc_not ((tok_all hm).2 c hc); exact ⟨this.2.2.1, this.2.2.2⟩
    · rcases List.mem_cons.1 hc with rfl | hc
      · decide
      · rcases List.mem_append.1 hc with hc | hc
        · have := of_decide_eq_true (List.all_eq_true.1 hv c hc); omega
        · simp only [List.mem_cons, List.not_mem_nil, or_false] at hc
          omega
  have wne : wm h ≠ [] := by unfold wm; simp
  refine ⟨_, rfl, ?_⟩
  rw [go_append, go_append, go_append, go_ends (wm h) s0 rfl rfl rfl cm (by omega) (by show 0 + _ + 2 ≤ _; omega)]
  have e1 : fin { s0 with cur := wm h ++ [13], n := s0.n + (wm h).length + 2 } (wm h) = ⟨[], false, true, ⟨h.m, h.t, h.v, []⟩, (wm h).length + 2, false, 0⟩ := by
    simp [fin, s0, wne, frst_wm hm ht hv h0 h1, show ¬ 4096 < (wm h).length by omega]
  rw [e1, go_fields r _ rfl rfl rfl rfl hg (by show 0 + _ ≤ _; omega) (by simp only; omega)]
  simp only [List.nil_append]
  have e2 := go_ends [] { cur := [], blk := false, is := true, h := ⟨h.m, h.t, h.v, r.map fun x => (x.1, x.2.1)⟩, n := (wm h).length + 2 + (wf r).length, d := false, e := 0 } rfl rfl rfl (fun c hc => by cases hc) (by simp) (by simp only [List.length_nil]; omega)
  rw [List.nil_append] at e2
  rw [e2]
  unfold fin
  simp only
  rw [if_neg (by simp), if_neg (by simp), if_pos trivial, go_over (.inl rfl)]
  refine ⟨rfl, rfl, ?_, ?_⟩
  · rw [← hf]
  · simp only [List.length_append, List.length_cons, List.length_nil]
end Go.Proofs.YtacbfbhhhofifaaDoor.Hd
