/- Plain: what six.Parse reads is what the document says. (Stage 11.) -/
import Derived.Test.YtpkmpebhlolhaaaDoorWF
import Derived.Lib.IndexMore
namespace Go.Proofs.YtpkmpebhlolhaaaDoor.X
open Go.Proofs.YtpkmpebhlolhaaaDoor.F (hx hx_bd vl bn bn_length)
set_option linter.unusedVariables false

theorem lst_one (p : List Int) : lst false p = (pc p).map (fun v => [v]) := by
  unfold lst
  rw [if_neg (by decide)]
theorem pcs_al : ∀ ps : List (List Int), pcs false ps = al ps
  | [] => rfl
  | [p] => by
    show lst false p = put (pc p) (some [])
    rw [lst_one]
    cases pc p <;> rfl
  | p :: q :: r => by
    have ih := pcs_al (q :: r)
    show put (pc p) (pcs false (q :: r)) = put (pc p) (al (q :: r))
    rw [ih]
theorem rwd_pieces {l : List Int} : rwd l = pieces false l ∨ (rwd l = none ∧ ∀ L, pieces false l = some L → 8 < L.length) := by
  unfold rwd pieces
  by_cases h : l = []
  · left; rw [if_pos h, if_pos h]
  · rw [if_neg h, if_neg h, pcs_al]
    by_cases h8 : (spB 58 l).length ≤ 8
    · left; rw [if_pos h8]
    · right
      rw [if_neg h8]
      exact ⟨rfl, fun L hL => by rw [al_len _ L hL]; omega⟩
theorem full_rwd (l : List Int) : full (rwd l) = full (pieces false l) := by
  rcases rwd_pieces (l := l) with h | ⟨h, h2⟩
  · rw [h]
  · rw [h]
    cases hp : pieces false l with
    | none => rfl
    | some L =>
      have := h2 L hp
      show none = if L.length = 8 then some L else none
      rw [if_neg (by omega)]
theorem both_rwd (f b : List Int) : both (rwd f) (rwd b) = both (pieces false f) (pieces false b) := by
  have no1 : ∀ o : Option (List Nat), both none o = none := fun o => by cases o <;> rfl
  have no2 : ∀ o : Option (List Nat), both o none = none := fun o => by cases o <;> rfl
  have big : ∀ F B : List Nat, 7 < F.length + B.length → both (some F) (some B) = none := fun F B h => by
    show (if F.length + B.length ≤ 7 then _ else none) = none
    rw [if_neg (by omega)]
  rcases rwd_pieces (l := f) with h | ⟨h, h2⟩ <;> rcases rwd_pieces (l := b) with g | ⟨g, g2⟩ <;> rw [h, g]
  · rw [no2]
    cases hb : pieces false b with
    | none => rw [no2]
    | some B =>
      cases hf : pieces false f with
      | none => rw [no1]
      | some F => rw [big F B (by have := g2 B hb; omega)]
  · rw [no1]
    cases hb : pieces false b with
    | none => rw [no2]
    | some B =>
      cases hf : pieces false f with
      | none => rw [no1]
      | some F => rw [big F B (by have := h2 F hf; omega)]
  · rw [no1]
    cases hb : pieces false b with
    | none => rw [no2]
    | some B =>
      cases hf : pieces false f with
      | none => rw [no1]
      | some F => rw [big F B (by have := h2 F hf; omega)]
/-! ### The last part -/
theorem dt_plain {p : List Int} (h : ¬ 46 ∈ p) : dt p = none := by
  unfold dt
  rw [sp_one 46 p h]
  show four2 [dn p] = none
  exact four2_len (by simp)
theorem lst_plain {p : List Int} (h : dt p = none) : lst true p = lst false p := by
  unfold lst
  rw [if_pos rfl, if_neg (by decide), h]
theorem pc_dot {p : List Int} (h : 46 ∈ p) : pc p = none := by
  unfold pc
  rw [if_neg]
  intro hh
  have := (List.all_eq_true.1 hh.2.2) 46 h
  revert this
  decide
theorem pcs_plain {p : List Int} (h : dt p = none) : ∀ ps : List (List Int), ps.getLast? = some p → pcs true ps = pcs false ps
  | [], _ => rfl
  | [q], e => by
    have : q = p := by simpa using e
    subst this
    exact lst_plain h
  | q :: r :: s, e => by
    have ih := pcs_plain h (r :: s) (by simpa using e)
    show put (pc q) (pcs true (r :: s)) = put (pc q) (pcs false (r :: s))
    rw [ih]
theorem pcs_no {p : List Int} (h : lst true p = none) : ∀ ps : List (List Int), ps.getLast? = some p → pcs true ps = none
  | [], e => by cases e
  | [q], e => by
    have : q = p := by simpa using e
    subst this
    exact h
  | q :: r :: s, e => by
    have ih := pcs_no h (r :: s) (by simpa using e)
    show put (pc q) (pcs true (r :: s)) = none
    rw [ih]
    cases pc q <;> rfl
theorem pcs_two {p qa qb : List Int} {a b : Nat} (h : lst true p = some [a, b]) (ha : pc qa = some a) (hb : pc qb = some b) : ∀ ps : List (List Int), pcs true (ps ++ [p]) = pcs false (ps ++ [qa, qb])
  | [] => by
    show lst true p = put (pc qa) (lst false qb)
    rw [lst_one, h, ha, hb]; rfl
  | q :: r => by
    have ih := pcs_two h ha hb r
    have e1 : pcs true (q :: (r ++ [p])) = put (pc q) (pcs true (r ++ [p])) := by
      cases r with
      | nil => rfl
      | cons _ _ => rfl
    have e2 : pcs false (q :: (r ++ [qa, qb])) = put (pc q) (pcs false (r ++ [qa, qb])) := by
      cases r with
      | nil => rfl
      | cons _ _ => rfl
    show pcs true (q :: (r ++ [p])) = pcs false (q :: (r ++ [qa, qb]))
    rw [e1, e2, ih]
/-- Nothing, or something that ends in a colon. -/
def Frn (X : List Int) : Prop := X = [] ∨ ∃ Y, X = Y ++ [58]
theorem sp_frn {X : List Int} (hX : Frn X) : ∃ L : List (List Int), ∀ p : List Int, spB 58 (X ++ p) = L ++ spB 58 p := by
  rcases hX with rfl | ⟨Y, rfl⟩
  · exact ⟨[], fun p => rfl⟩
  · refine ⟨spB 58 Y, fun p => ?_⟩
    rw [List.append_assoc]
    exact sp_app 58 Y p
theorem sp_last {X p : List Int} (hX : Frn X) (hp : ¬ 58 ∈ p) : (spB 58 (X ++ p)).getLast? = some p := by
  obtain ⟨L, h⟩ := sp_frn hX
  rw [h, sp_one 58 p hp]
  simp
theorem pieces_plain {l p : List Int} (hl : (spB 58 l).getLast? = some p) (h : dt p = none) : pieces true l = pieces false l := by
  unfold pieces
  rw [pcs_plain h _ hl]
theorem pieces_no {l p : List Int} (hl : (spB 58 l).getLast? = some p) (h : lst true p = none) (hp : p ≠ []) : pieces true l = none := by
  unfold pieces
  rw [if_neg, pcs_no h _ hl]
  intro e
  rw [e] at hl
  exact hp (by simpa [spB] using hl.symm)
/-! ### Two colons -/
theorem first_gap : ∀ l : List Int, cc l ≠ 0 → ∃ A B, l = A ++ 58 :: 58 :: B ∧ cc (A ++ [58]) = 0
  | [], h => absurd rfl h
  | [a], h => absurd rfl h
  | a :: b :: t, h => by
    by_cases hab : a = 58 ∧ b = 58
    · exact ⟨[], t, by rw [hab.1, hab.2]; rfl, rfl⟩
    · rw [cc_cons2, if_neg hab, Nat.zero_add] at h
      obtain ⟨A, B, h1, h2⟩ := first_gap (b :: t) h
      refine ⟨a :: A, B, by rw [h1]; rfl, ?_⟩
      cases A with
      | nil =>
        have hb : b = 58 := by
          have h5 : b :: t = 58 :: 58 :: B := h1
          exact (List.cons.inj h5).1
        show cc (a :: 58 :: []) = 0
        rw [cc_cons2, if_neg (fun hh => hab ⟨hh.1, hb⟩)]; rfl
      | cons c A =>
        have hb : b = c := by
          have h5 : b :: t = c :: (A ++ 58 :: 58 :: B) := h1
          exact (List.cons.inj h5).1
        show cc (a :: c :: (A ++ [58])) = 0
        rw [cc_cons2, if_neg (fun hh => hab ⟨hh.1, hb.trans hh.2⟩)]
        rw [Nat.zero_add]; exact h2
theorem gap_empty {B : List Int} (h : cc (58 :: B) ≠ 0) : [] ∈ spB 58 B ∧ B ≠ [] := by
  cases B with
  | nil => exact absurd rfl h
  | cons b t =>
    refine ⟨?_, by simp⟩
    by_cases hb : b = 58
    · rw [hb, spB, if_pos rfl]; simp
    · rw [cc_cons2, if_neg (fun hh => hb hh.2), Nat.zero_add] at h
      obtain ⟨A, B, h1, _⟩ := first_gap (b :: t) h
      rw [h1]
      have e : spB 58 (A ++ 58 :: 58 :: B) = spB 58 A ++ spB 58 (58 :: B) := sp_app 58 A (58 :: B)
      have e2 : spB 58 (58 :: B) = [] :: spB 58 B := if_pos rfl
      rw [e, e2]; simp
theorem rwd_empty {B : List Int} (h : cc (58 :: B) ≠ 0) : rwd B = none := by
  obtain ⟨h1, h2⟩ := gap_empty h
  unfold rwd
  rw [if_neg h2]
  split
  · exact al_none h1 rfl
  · rfl
theorem cc_gap {A B : List Int} (h : cc (A ++ [58]) = 0) : cc (A ++ 58 :: 58 :: B) = 1 + cc (58 :: B) := by
  have e : A ++ 58 :: 58 :: B = (A ++ [58]) ++ (58 :: B) := by simp
  rw [e, cc_app, h, if_pos ⟨by simp, by simp⟩]; omega
/-- What six.Parse reads of a text without dots at its end. -/
def pp (l : List Int) : Option (List Nat) := if cc l = 0 then full (rwd l) else both (rwd (l.take (cp l))) (rwd (l.drop (cp l + 2)))
theorem pp_gap {A B : List Int} (h : cc (A ++ [58]) = 0) : pp (A ++ 58 :: 58 :: B) = both (rwd A) (rwd B) := by
  have hc := cc_gap (B := B) h
  unfold pp
  rw [if_neg (by omega), cp_at A B h]
  have t1 : (A ++ 58 :: 58 :: B).take A.length = A := List.take_left
  have t2 : (A ++ 58 :: 58 :: B).drop (A.length + 2) = B := by rw [← List.drop_drop, List.drop_left]; rfl
  rw [t1, t2]
theorem prs_gap2 {A B : List Int} (h : cc (A ++ [58]) = 0) : prs (A ++ 58 :: 58 :: B) = if cc (58 :: B) = 0 then both (pieces false A) (pieces true B) else none := by
  have hc := cc_gap (B := B) h
  unfold prs
  rw [if_neg (by omega), cp_at A B h]
  have t1 : (A ++ 58 :: 58 :: B).take A.length = A := List.take_left
  have t2 : (A ++ 58 :: 58 :: B).drop (A.length + 2) = B := by rw [← List.drop_drop, List.drop_left]; rfl
  rw [t1, t2]
  by_cases h0 : cc (58 :: B) = 0
  · rw [if_pos (by omega), if_pos h0]
  · rw [if_neg (by omega), if_neg h0]
theorem both_none (o : Option (List Nat)) : both o none = none := by cases o <;> rfl
theorem sp_gap_last {A B : List Int} : (spB 58 (A ++ 58 :: 58 :: B)).getLast? = (spB 58 B).getLast? := by
  have e : spB 58 (A ++ 58 :: 58 :: B) = spB 58 A ++ spB 58 (58 :: B) := sp_app 58 A (58 :: B)
  have e2 : spB 58 (58 :: B) = [] :: spB 58 B := if_pos rfl
  rw [e, e2]
  cases h : spB 58 B with
  | nil => exact absurd h (spB_ne 58 B)
  | cons x y =>
    have e3 : spB 58 A ++ [] :: x :: y = (spB 58 A ++ [[]]) ++ (x :: y) := by simp
    rw [e3, List.getLast?_append]
    cases h6 : (x :: y).getLast? with
    | none => simp at h6
    | some v => rfl
/-- No dot in the last part. -/
theorem pp_plain {X p : List Int} (hX : Frn X) (hp : ¬ 58 ∈ p) (hd : ¬ 46 ∈ p) : pp (X ++ p) = prs (X ++ p) := by
  have hl := sp_last hX hp
  obtain ⟨l, e⟩ : ∃ l, X ++ p = l := ⟨_, rfl⟩
  rw [e] at hl ⊢
  by_cases h0 : cc l = 0
  · unfold pp prs
    rw [if_pos h0, if_pos h0, full_rwd, pieces_plain hl (dt_plain hd)]
  · obtain ⟨A, B, rfl, hA⟩ := first_gap l h0
    rw [pp_gap hA, prs_gap2 hA]
    rw [sp_gap_last] at hl
    by_cases h1 : cc (58 :: B) = 0
    · rw [if_pos h1, both_rwd, pieces_plain hl (dt_plain hd)]
    · rw [if_neg h1, rwd_empty h1, both_none]
/-- Dots in the last part, which is wrong. -/
theorem prs_wrong {X p : List Int} (hX : Frn X) (hp : ¬ 58 ∈ p) (hd : 46 ∈ p) (h : dt p = none) : prs (X ++ p) = none := by
  have hl := sp_last hX hp
  have hlst : lst true p = none := by
    rw [lst_plain h]
    unfold lst
    rw [if_neg (by decide), pc_dot hd]; rfl
  have hne : p ≠ [] := fun e => by rw [e] at hd; cases hd
  obtain ⟨l, e⟩ : ∃ l, X ++ p = l := ⟨_, rfl⟩
  rw [e] at hl ⊢
  by_cases h0 : cc l = 0
  · unfold prs
    rw [if_pos h0, pieces_no hl hlst hne]; rfl
  · obtain ⟨A, B, rfl, hA⟩ := first_gap l h0
    rw [prs_gap2 hA]
    rw [sp_gap_last] at hl
    split
    · rw [pieces_no hl hlst hne, both_none]
    · rfl
/-- Dots in the last part, told as two pieces. -/
theorem pp_dots {X p : List Int} {a b : Nat} (hX : Frn X) (hp : ¬ 58 ∈ p) (hd : 46 ∈ p) (h : dt p = some [a, b]) (ha : a < 65536) (hb : b < 65536) : pp (X ++ (hexT false false a ++ 58 :: hexT false false b)) = prs (X ++ p) := by
  have hlst : lst true p = some [a, b] := by
    unfold lst
    rw [if_pos rfl, h]
  have hne : p ≠ [] := fun e => by rw [e] at hd; cases hd
  have qa := hexT_txt (cap := false) (nts := false) ha
  have qb := hexT_txt (cap := false) (nts := false) hb
  have pa := hexT_pc (cap := false) (nts := false) ha
  have pb := hexT_pc (cap := false) (nts := false) hb
  obtain ⟨q1, hq1⟩ : ∃ q1, hexT false false a = q1 := ⟨_, rfl⟩
  obtain ⟨q2, hq2⟩ : ∃ q2, hexT false false b = q2 := ⟨_, rfl⟩
  rw [hq1] at qa pa ⊢
  rw [hq2] at qb pb ⊢
  have pieces_eq : ∀ Z : List Int, Frn Z → pieces true (Z ++ p) = pieces false (Z ++ (q1 ++ 58 :: q2)) := fun Z hZ => by
    obtain ⟨L, hL⟩ := sp_frn hZ
    unfold pieces
    rw [if_neg (fun e => hne (List.append_eq_nil_iff.1 e).2), if_neg (fun e => by simp at e)]
    rw [hL, hL, sp_one 58 p hp, sp_app, sp_one 58 q1 qa.2, sp_one 58 q2 qb.2]
    exact pcs_two hlst pa pb L
  have hq0 : cc (q1 ++ 58 :: q2) = 0 := by
    have e : (58 :: q2) = [58] ++ q2 := rfl
    rw [cc_app, cc_free q1 qa.2, e, cc_app, cc_free q2 qb.2, if_neg (fun hh => head_ne qb hh.2), if_neg (fun hh => last_ne qa hh.1)]; rfl
  have hph : p.head? ≠ some 58 := fun e => hp (List.mem_of_mem_head? e)
  have hqh : (q1 ++ 58 :: q2).head? ≠ some 58 := by
    cases hq : q1 with
    | nil => exact absurd hq qa.1
    | cons c t =>
      have := head_ne qa
      rw [hq] at this
      simpa using this
  have ccp : ∀ Z : List Int, cc (Z ++ p) = cc Z := fun Z => by rw [cc_app, cc_free p hp, if_neg (fun hh => hph hh.2)]; rfl
  have ccq : ∀ Z : List Int, cc (Z ++ (q1 ++ 58 :: q2)) = cc Z := fun Z => by rw [cc_app, hq0, if_neg (fun hh => hqh hh.2)]; rfl
  by_cases h0 : cc X = 0
  · unfold pp prs
    rw [if_pos (by rw [ccq]; exact h0), if_pos (by rw [ccp]; exact h0), full_rwd, pieces_eq X hX]
  · obtain ⟨A, B, rfl, hA⟩ := first_gap X h0
    have hB : Frn B := by
      rcases hX with e | ⟨Y, e⟩
      · simp at e
      · rcases List.eq_nil_or_concat B with e2 | ⟨B', c, e2⟩
        · exact .inl e2
        · right
          refine ⟨B', ?_⟩
          rw [e2] at e ⊢
          have e3 : (A ++ 58 :: 58 :: B') ++ [c] = Y ++ [58] := by simpa using e
          have := (List.append_inj' e3 rfl).2
          simpa using this
    have e1 : (A ++ 58 :: 58 :: B) ++ p = A ++ 58 :: 58 :: (B ++ p) := by simp
    have e2 : (A ++ 58 :: 58 :: B) ++ (q1 ++ 58 :: q2) = A ++ 58 :: 58 :: (B ++ (q1 ++ 58 :: q2)) := by simp
    rw [e1, e2, pp_gap hA, prs_gap2 hA]
    have c1 : cc (58 :: (B ++ p)) = cc (58 :: B) := ccp (58 :: B)
    have c2 : cc (58 :: (B ++ (q1 ++ 58 :: q2))) = cc (58 :: B) := ccq (58 :: B)
    by_cases h1 : cc (58 :: B) = 0
    · rw [if_pos (by rw [c1]; exact h1), both_rwd, pieces_eq B hB]
    · rw [if_neg (by rw [c1]; exact h1), rwd_empty (B := B ++ (q1 ++ 58 :: q2)) (by rw [c2]; exact h1), both_none]
/-! ### Cut at two colons -/
theorem index_cc : ∀ l : List UInt8, (cc (nn l) = 0 ∧ Lib.index l [58, 58] = -1) ∨ (cc (nn l) ≠ 0 ∧ Lib.index l [58, 58] = (cp (nn l) : Int))
  | [] => .inl ⟨rfl, rfl⟩
  | [a] => by
    left
    refine ⟨rfl, ?_⟩
    have e : ([58, 58] : List UInt8).isPrefixOf [a] = false := by simp [List.isPrefixOf]
    rw [Lib.index, e]; rfl
  | a :: b :: t => by
    have e0 : nn (a :: b :: t) = (a.toNat : Int) :: (b.toNat : Int) :: nn t := rfl
    have e1 : nn (b :: t) = (b.toNat : Int) :: nn t := rfl
    have ih := index_cc (b :: t)
    have q58 : ∀ x : UInt8, (x.toNat : Int) = 58 ↔ x = 58 := fun x => by
      constructor
      · intro h
        exact UInt8.toNat_inj.1 (by have h5 : (58 : UInt8).toNat = 58 := rfl; omega)
      · intro h; rw [h]; rfl
    by_cases hab : a = 58 ∧ b = 58
    · right
      rw [e0, cc_cons2, if_pos ⟨(q58 a).2 hab.1, (q58 b).2 hab.2⟩]
      refine ⟨by omega, ?_⟩
      rw [cp, if_pos ⟨(q58 a).2 hab.1, (q58 b).2 hab.2⟩]
      have e : ([58, 58] : List UInt8).isPrefixOf (a :: b :: t) = true := by rw [hab.1, hab.2]; simp [List.isPrefixOf]
      rw [Lib.index, if_pos e]; rfl
    · have hn : ¬ ((a.toNat : Int) = 58 ∧ (b.toNat : Int) = 58) := fun h => hab ⟨(q58 a).1 h.1, (q58 b).1 h.2⟩
      have e : ¬ ([58, 58] : List UInt8).isPrefixOf (a :: b :: t) = true := by
        intro h
        simp [List.isPrefixOf] at h
        exact hab ⟨h.1.symm, h.2.symm⟩
      rw [e0, cc_cons2, if_neg hn, Nat.zero_add, ← e1, Lib.index, if_neg e]
      rcases ih with ⟨h1, h2⟩ | ⟨h1, h2⟩
      · left
        exact ⟨h1, by rw [h2]; rfl⟩
      · right
        refine ⟨h1, ?_⟩
        have e5 : cp ((a.toNat : Int) :: nn (b :: t)) = cp (nn (b :: t)) + 1 := by
          rw [e1, cp, if_neg hn]
        rw [h2, e5]
        have hne : ((cp (nn (b :: t)) : Int) == -1) = false := by simp <;> omega
        rw [if_neg (by rw [hne]; decide)]
        <;> rfl
theorem cut_gap (l : List UInt8) : (cc (nn l) = 0 ∧ Lib.cut l [58, 58] = (l, [], false)) ∨ (cc (nn l) ≠ 0 ∧ nn (Lib.cut l [58, 58]).1 = (nn l).take (cp (nn l)) ∧ nn (Lib.cut l [58, 58]).2.1 = (nn l).drop (cp (nn l) + 2) ∧ (Lib.cut l [58, 58]).2.2 = true) := by
  rcases index_cc l with ⟨h1, h2⟩ | ⟨h1, h2⟩
  · left
    refine ⟨h1, ?_⟩
    unfold Lib.cut
    rw [h2, if_neg (by decide)]
  · right
    refine ⟨h1, ?_⟩
    unfold Lib.cut
    rw [h2, if_pos (by omega), Int.toNat_natCast]
    unfold nn
    exact ⟨by rw [List.map_take], by rw [List.map_drop] <;> rfl, rfl⟩
end Go.Proofs.YtpkmpebhlolhaaaDoor.X
