/- What is gathered, each row of marks in order: plain, and in memory. -/
import Derived.Test.YtcgfbejcehiolaaSI
import Derived.Test.YtcgfbejcehiolaaNA
namespace Go.Proofs.Ytcgfbejcehiolaa
open Go.RowKit
set_option linter.unusedVariables false

theorem snoc_ind {α : Type} {P : List α → Prop} (h0 : P []) (h1 : ∀ l p, P l → P (l ++ [p])) (l : List α) : P l := by
  have : ∀ r : List α, P r.reverse := by
    intro r
    induction r with
    | nil => exact h0
    | cons a r ih => rw [List.reverse_cons]; exact h1 _ _ ih
  have h := this l.reverse
  rwa [List.reverse_reverse] at h
theorem tlv (c : Array Value) (i : Nat) : c.toList[i]? = c[i]? := by simp
/-- What is in order, and the marks behind it that are not yet. -/
def stp (s : List Pt × List Pt) (p : Pt) : List Pt × List Pt := if p.2 = 0 then (s.1 ++ isort s.2 ++ [p], []) else (s.1, s.2 ++ [p])
def st (l : List Pt) : List Pt × List Pt := l.foldl stp ([], [])
/-- A row of points in order. -/
def ord (l : List Pt) : List Pt := (st l).1 ++ isort (st l).2
theorem st_snoc (l : List Pt) (p : Pt) : st (l ++ [p]) = stp (st l) p := by simp [st, List.foldl_append]
theorem st_len (l : List Pt) : (st l).1.length + (st l).2.length = l.length := by
  induction l using snoc_ind with
  | h0 => rfl
  | h1 l p ih =>
    rw [st_snoc]
    unfold stp
    split
    · have := (isort_stb (st l).2).len
      simp only [List.length_append, List.length_cons, List.length_nil]; omega
    · simp only [List.length_append, List.length_cons, List.length_nil]; omega

def c2 (p : Pt) : List Value := [.int .i32 p.1, .int .u8 p.2]
def flat2 (l : List Pt) : List Value := l.flatMap c2
theorem flat2_len (l : List Pt) : (flat2 l).length = l.length * 2 := by
  induction l with
  | nil => rfl
  | cons s l ih => simp only [flat2, List.flatMap_cons, List.length_append, List.length_cons] at ih ⊢; rw [ih]; simp [c2]; omega
theorem flat2_append (a b : List Pt) : flat2 (a ++ b) = flat2 a ++ flat2 b := by simp [flat2]
theorem flat2_get (l : List Pt) : ∀ j, j < l.length → (flat2 l)[j * 2]? = some (.int .i32 (l[j]?.getD z2).1) ∧ (flat2 l)[j * 2 + 1]? = some (.int .u8 (l[j]?.getD z2).2) := by
  induction l with
  | nil => intro j hj; simp at hj
  | cons s l ih =>
    intro j hj
    rcases j with _ | j
    · simp [flat2, c2]
    · have h := ih j (by simpa using hj)
      have e : flat2 (s :: l) = c2 s ++ flat2 l := rfl
      have hl : (c2 s).length = 2 := rfl
      rw [e, List.getElem?_append_right (by omega), List.getElem?_append_right (by omega), hl, show (j + 1) * 2 - 2 = j * 2 by omega, show (j + 1) * 2 + 1 - 2 = j * 2 + 1 by omega]
      simpa using h
/-- The points that a row of the call's own holds from a place on. -/
theorem ownsRow_pts {W : World} {base g n cap : Nat} {O S : List Pt} (h : W.ownsRow base 55 2 (.slice (some ⟨g, 0, none⟩) n cap) n (flat2 (O ++ S))) : Pts W g (O.length * 2) S := by
  obtain ⟨hl, h⟩ := h
  rcases h with ⟨h, _⟩ | ⟨g', cap', cur, e, _, hg, _, _, _, ht⟩
  · cases h
  · cases e
    refine ⟨cur, 55, hg, fun j hj => ?_⟩
    have hn : (O ++ S).length * 2 = n * 2 := by rw [← hl, flat2_len]
    rw [List.length_append] at hn
    have hf := flat2_get (O ++ S) (O.length + j) (by rw [List.length_append]; omega)
    rw [← ht, List.getElem?_take_of_lt (by omega), List.getElem?_take_of_lt (by omega), tlv, tlv] at hf
    rw [show O.length * 2 + j * 2 = (O.length + j) * 2 by omega]
    rw [List.getElem?_append_right (by omega), show O.length + j - O.length = j by omega] at hf
    exact hf
theorem flat2_ext {n : Nat} {X : List Value} {l : List Pt} (hn : l.length = n) (hX : X.length = n * 2) (h : ∀ j, j < n → X[j * 2]? = some (.int .i32 (l[j]?.getD z2).1) ∧ X[j * 2 + 1]? = some (.int .u8 (l[j]?.getD z2).2)) : X = flat2 l := by
  apply List.ext_getElem?
  intro i
  by_cases hi : i < n * 2
  · have hj := h (i / 2) (by omega)
    have hf := flat2_get l (i / 2) (by omega)
    rcases Nat.mod_two_eq_zero_or_one i with hm | hm
    · rw [show i = i / 2 * 2 by omega, hj.1, hf.1]
    · rw [show i = i / 2 * 2 + 1 by omega, hj.2, hf.2]
  · rw [List.getElem?_eq_none (by omega), List.getElem?_eq_none (by rw [flat2_len]; omega)]
theorem ownsRow_chg {W W' : World} {base g n cap : Nat} {O S S' : List Pt} (h : W.ownsRow base 55 2 (.slice (some ⟨g, 0, none⟩) n cap) n (flat2 (O ++ S))) (hc : Chg g (O.length * 2) S.length W W') (hp : Pts W' g (O.length * 2) S') (hl : S'.length = S.length) :
    W'.ownsRow base 55 2 (.slice (some ⟨g, 0, none⟩) n cap) n (flat2 (O ++ S')) := by
  obtain ⟨hl0, h⟩ := h
  rcases h with ⟨h, _⟩ | ⟨g', cap', cur, e, hb, hg, hn1, hn2, hn3, ht⟩
  · cases h
  · cases e
    obtain ⟨c1, c2', t, e1, e2, hs, hf⟩ := hc.blk
    rw [hg] at e1
    cases e1
    obtain ⟨c3, t3, e3, hp⟩ := hp
    rw [e2] at e3
    cases e3
    have hn : (O ++ S).length * 2 = n * 2 := by rw [← hl0, flat2_len]
    rw [List.length_append] at hn
    refine ⟨by rw [flat2_len, List.length_append, hl]; exact hn, .inr ⟨g, cap, c2', rfl, hb, e2, hn1, hn2, by rw [hs, hn3], ?_⟩⟩
    refine flat2_ext (n := n) (by rw [List.length_append, hl]; omega) (by rw [List.length_take, Array.length_toList, hs, hn3]; have := Nat.mul_le_mul_right 2 hn1; omega) (fun j hj => ?_)
    rw [List.getElem?_take_of_lt (by omega), List.getElem?_take_of_lt (by omega), tlv, tlv]
    by_cases hjo : j < O.length
    · rw [hf _ (.inl (by omega)), hf _ (.inl (by omega))]
      have hff := flat2_get (O ++ S) j (by rw [List.length_append]; omega)
      rw [← ht, List.getElem?_take_of_lt (by omega), List.getElem?_take_of_lt (by omega), tlv, tlv, List.getElem?_append_left hjo] at hff
      rw [List.getElem?_append_left hjo]
      exact hff
    · have := hp (j - O.length) (by omega)
      rw [show O.length * 2 + (j - O.length) * 2 = j * 2 by omega] at this
      rw [List.getElem?_append_right (by omega)]
      exact this

set_option maxRecDepth 100000 in
set_option maxHeartbeats 1000000 in
theorem marks_any (b o cap n : Nat) (l : List Pt) (W : World) (hn : l.length = n) (hsz : n ≤ 100000) (hP : Pts W b o l) :
    Calls Try.prog 36 #[.slice (some ⟨b, o, none⟩) n cap] W fun r W' => r = .returned (.tuple #[]) ∧ Pts W' b o (isort l) ∧ Chg b o n W W' := by
  have hst : Calls Try.prog 55 #[.slice (some ⟨b, o, none⟩) n cap, .func (.func 56) #[] #[]] W fun r W' => r = .returned (.tuple #[]) ∧ Pts W' b o (isort l) ∧ Chg b o n W W' := by
    have hs := hid (stable_any b o cap n l W hn hsz hP)
    clear hP hn
    go_enter Try.func55, Try.ntmps55
    go_wp2_with fail
    refine (show Calls _ _ _ _ _ from hs.out).mono ?_
    rintro r W' ⟨rfl, h1, h2⟩
    go_wp2
    go_end0
    exact ⟨rfl, h1, h2⟩
  have hs := hid hst
  clear hP hn hst
  go_enter Try.func36, Try.ntmps36
  go_wp2_with fail
  refine (show Calls _ _ _ _ _ from hs.out).mono ?_
  rintro r W' ⟨rfl, h1, h2⟩
  go_wp2
  go_end0
  exact ⟨rfl, h1, h2⟩

set_option maxRecDepth 100000 in
set_option maxHeartbeats 1000000 in
theorem ins_none (a : Option Addr) (cap : Nat) (W : World) : Calls Try.prog 80 #[.slice a 0 cap, .int .i64 0, .int .i64 0, .func (.func 56) #[] #[]] W fun r W' => r = .returned (.tuple #[]) ∧ W' = W := by
  go_enter Try.func80, Try.ntmps80
  go_wp2_with fail
  refine wp_loop_rounds 1 ?_
  rw [rounds_succ]
  go_wp2
  go_end0
  exact ⟨rfl, rfl⟩
set_option maxRecDepth 100000 in
set_option maxHeartbeats 1000000 in
theorem marks_none (a : Option Addr) (cap : Nat) (W : World) : Calls Try.prog 36 #[.slice a 0 cap] W fun r W' => r = .returned (.tuple #[]) ∧ W' = W := by
  have h1 : Calls Try.prog 72 #[.slice a 0 cap, .int .i64 0, .func (.func 56) #[] #[]] W fun r W' => r = .returned (.tuple #[]) ∧ W' = W := by
    go_enter Try.func72, Try.ntmps72
    go_wp2_with fail
    refine wp_loop_rounds 1 ?_
    rw [rounds_succ]
    go_wp2_with fail
    refine (ins_none a cap _).mono ?_
    rintro r W' ⟨rfl, rfl⟩
    go_wp2_with fail
    refine wp_loop_rounds 1 ?_
    rw [rounds_succ]
    go_wp2
    go_end0
    exact ⟨rfl, rfl⟩
  have h2 : Calls Try.prog 55 #[.slice a 0 cap, .func (.func 56) #[] #[]] W fun r W' => r = .returned (.tuple #[]) ∧ W' = W := by
    have hs := hid h1
    clear h1
    go_enter Try.func55, Try.ntmps55
    go_wp2_with fail
    refine (show Calls _ _ _ _ _ from hs.out).mono ?_
    rintro r W' ⟨rfl, rfl⟩
    go_wp2
    go_end0
    exact ⟨rfl, rfl⟩
  have hs := hid h2
  clear h1 h2
  go_enter Try.func36, Try.ntmps36
  go_wp2_with fail
  refine (show Calls _ _ _ _ _ from hs.out).mono ?_
  rintro r W' ⟨rfl, rfl⟩
  go_wp2
  go_end0
  exact ⟨rfl, rfl⟩
end Go.Proofs.Ytcgfbejcehiolaa
