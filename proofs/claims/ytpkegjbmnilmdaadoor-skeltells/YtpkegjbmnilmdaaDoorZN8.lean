/- Texts of one layer, one behind the other: NCC NPA NPB NCD NLA NLC. -/
import Derived.Test.YtpkegjbmnilmdaaDoorZN7
import Derived.Test.YtpkegjbmnilmdaaDoorZU3
import Derived.Test.YtpkegjbmnilmdaaDoorZD4
/- The contracts of Order, NFD, NFC, Is and Text. -/
namespace Go.Proofs.YtpkegjbmnilmdaaDoor.N
open Go.RowKit
set_option linter.unusedVariables false

theorem ord_len (l : List Pt) : (ord l).length = l.length := by
  unfold ord
  rw [List.length_append, (isort_stb _).len]; exact st_len l
/-- In order; taken apart; put together. -/
def ordI (L : List Int) : List Int := (ord (L.map pt)).map (·.1)
def nfdI (L : List Int) : List Int := (ord ((L.flatMap fd).map pt)).map (·.1)
def nfcI (L : List Int) : List Int := (comp (ord ((L.flatMap fd).map pt))).map (·.1)
theorem ordI_len (L : List Int) : (ordI L).length = L.length := by unfold ordI; rw [List.length_map, ord_len, List.length_map]
theorem nfdI_len (L : List Int) : (nfdI L).length ≤ L.length * 3 := by unfold nfdI; rw [List.length_map, ord_len, List.length_map]; exact fds_len L
theorem nfcI_len (L : List Int) : (nfcI L).length ≤ (nfdI L).length := by unfold nfcI nfdI; rw [List.length_map, List.length_map]; exact tst_len _
/-- It answers these numbers, in new memory. -/
def Gives (L : List Int) (w : World) (e : Ending) (W' : World) : Prop := ∃ v, e = .returned v ∧ W'.ownsRow w.heap.size 21 1 v L.length (L.map (Value.int .i32)) ∧ Below w.heap.size w W'
theorem Row21.below {W W' : World} {v : Value} {zs : List Int} (h : Row21 W v zs) (hb : Below W.heap.size W W') : Row21 W' v zs := h.kp (Kp.below (B := 0) hb)
theorem gives_of {L : List Int} {w w1 W' : World} {v : Value} {l : List Pt} (hL : L = l.map (·.1)) (hb : Below w.heap.size w w1) (h : W'.ownsRow w1.heap.size 21 1 v l.length ((l.map (·.1)).map (Value.int .i32))) (hb2 : Below w1.heap.size w1 W') : Gives L w (.returned v) W' := by
  subst hL
  refine ⟨v, rfl, ?_, hb.trans (hb2.mono hb.size)⟩
  rw [List.length_map]
  obtain ⟨h1, h2⟩ := h
  refine ⟨h1, ?_⟩
  rcases h2 with h2 | ⟨g, cap, cur, e, hg, h3⟩
  · exact .inl h2
  · exact .inr ⟨g, cap, cur, e, Nat.le_trans hb.size hg, h3⟩

set_option maxRecDepth 100000 in
set_option maxHeartbeats 1000000 in
theorem nfd_any (v : Value) (L : List Int) (w : World) (hlen : L.length ≤ 10000) (hv : Row21 w v L) : Calls Tryd.prog 29 #[v] w fun e W' => Gives (nfdI L) w e W' := by
  have hsh : ∃ a m c, v = .slice a m c := by obtain ⟨a, c, e, _⟩ := hv; exact ⟨a, _, c, e⟩
  have hval := callsIn_wide.1 (allApart_in 3 v w hsh)
  have hbx := Boxed.new w 38 v
  obtain ⟨w1, hw1⟩ : ∃ w1, w1 = w.alloc (.cells #[v] 38) := ⟨_, rfl⟩
  rw [← hw1] at hval hbx
  have hB1 : Below w.heap.size w w1 := by rw [hw1]; exact (Below.refl _ w).alloc (Nat.le_refl _) _
  have hfl := fds_len L
  have hord := ordered_any 67 #[.pointer (some ⟨w.heap.size, 0, none⟩)] (L.flatMap fd) w1 (by omega) (enters_of Tryd.func67 (by kernel_rfl) rfl) (all_feeds w1 w.heap.size v L (by omega) hbx (hv.below hB1))
  have HV := hid hval
  have HO := hid hord
  have HB1 := hid hB1
  obtain ⟨a, m, c, rfl⟩ := hsh
  clear hval hord hB1 hbx hv hw1
  go_enter Tryd.func29, Tryd.ntmps29
  go_wp2_with fail
  refine (show Calls _ _ _ _ _ from HV.out).mono ?_
  rintro e w' ⟨rfl, rfl⟩
  go_wp2_with fail
  refine (show Calls _ _ _ _ _ from HO.out).mono ?_
  rintro e w2 ⟨v2, rfl, hr2, hB2⟩
  have hB12 := HB1.out.trans (hB2.mono HB1.out.size)
  have hrun := runes_any v2 (ord ((L.flatMap fd).map pt)) w2 (by rw [ord_len, List.length_map]; omega) (RowP.of_own hr2)
  have HR := hid hrun
  have HB12 := hid hB12
  clear hrun hr2 hB2 hB12
  go_wp2_with fail
  refine (show Calls _ _ _ _ _ from HR.out).mono ?_
  rintro e w3 ⟨v3, rfl, hr3, hB3⟩
  go_wp2
  go_ret
  exact gives_of rfl HB12.out hr3 hB3
/-- What norm.Text answers. -/
def textR (s t : ByteArray) : Prop := ∃ r, U.encR (nfcI (U.dec (U.bn s))) t r
end Go.Proofs.YtpkegjbmnilmdaaDoor.N
/- Plain facts: what is in order, taken apart, put together, stays so. -/
namespace Go.Proofs.YtpkegjbmnilmdaaDoor.N
open Go.RowKit
set_option linter.unusedVariables false

theorem isort_eq {a b : List Pt} (h : Stb a b) : isort a = isort b :=
  isort_of (h := (⟨(isort_stb a).perm.trans h.perm.symm, fun k => ((isort_stb a).fil k).trans (h.fil k).symm⟩ : Stb b (isort a))) (isort_srt a)
theorem isort_id {a : List Pt} (h : Srt a) : isort a = a := (isort_of (Stb.refl a) h).symm

/-! ### The order -/
theorem st_marks (X : List Pt) (h : ∀ x ∈ X, x.2 ≠ 0) : ∀ s : List Pt × List Pt, X.foldl stp s = (s.1, s.2 ++ X) := by
  induction X with
  | nil => intro s; simp
  | cons x X ih =>
    intro s
    rw [List.foldl_cons, ih (fun y hy => h y (by simp [hy]))]
    have := h x (by simp)
    simp [stp, this]
theorem st_stb (y : List Pt) : ∀ (O S S' : List Pt), Stb S S' → (y.foldl stp (O, S)).1 = (y.foldl stp (O, S')).1 ∧ Stb (y.foldl stp (O, S)).2 (y.foldl stp (O, S')).2 := by
  induction y with
  | nil => intro O S S' h; exact ⟨rfl, h⟩
  | cons p y ih =>
    intro O S S' h
    rw [List.foldl_cons, List.foldl_cons]
    unfold stp
    split
    · dsimp only
      rw [isort_eq h]
      exact ⟨rfl, Stb.refl _⟩
    · exact ih _ _ _ (h.append (Stb.refl [p]))
/-- Two marks of unlike classes side by side may change places. -/
theorem ord_swap (x y : List Pt) (a b : Pt) (ha : a.2 ≠ 0) (hb : b.2 ≠ 0) (hab : a.2 ≠ b.2) : ord (x ++ a :: b :: y) = ord (x ++ b :: a :: y) := by
  unfold ord st
  rw [List.foldl_append, List.foldl_append]
  obtain ⟨O, S⟩ := x.foldl stp ([], [])
  rw [List.foldl_cons, List.foldl_cons, List.foldl_cons, List.foldl_cons]
  have e1 : stp (stp (O, S) a) b = (O, S ++ [a, b]) := by simp [stp, ha, hb]
  have e2 : stp (stp (O, S) b) a = (O, S ++ [b, a]) := by simp [stp, ha, hb]
  rw [e1, e2]
  have hs : Stb (S ++ [a, b]) (S ++ [b, a]) := (Stb.refl S).append (Stb.swap (X := [a]) (Y := [b]) (fun p hp q hq => by simp at hp hq; subst hp; subst hq; exact hab))
  have h := st_stb y O _ _ hs
  rw [h.1, isort_eq h.2]
/-- A mark goes ahead of smaller ones. -/
theorem ord_move (B : List Pt) (c : Pt) (hc : c.2 ≠ 0) (h : ∀ b ∈ B, b.2 ≠ 0 ∧ b.2 ≠ c.2) : ∀ (x y : List Pt), ord (x ++ c :: (B ++ y)) = ord (x ++ (B ++ c :: y)) := by
  induction B with
  | nil => intro x y; rfl
  | cons b B ih =>
    intro x y
    have hb := h b (by simp)
    rw [List.cons_append, ord_swap x _ c b hc hb.1 (fun e => hb.2 e.symm)]
    have := ih (fun b' hb' => h b' (by simp [hb'])) (x ++ [b]) y
    simpa using this
theorem st_prefix (y : List Pt) : ∀ (A O S : List Pt), y.foldl stp (A ++ O, S) = (A ++ (y.foldl stp (O, S)).1, (y.foldl stp (O, S)).2) := by
  induction y with
  | nil => intro A O S; rfl
  | cons p y ih =>
    intro A O S
    rw [List.foldl_cons, List.foldl_cons]
    by_cases hp : p.2 = 0
    · have e1 : stp (A ++ O, S) p = (A ++ (O ++ isort S ++ [p]), []) := by simp [stp, hp]
      have e2 : stp (O, S) p = (O ++ isort S ++ [p], []) := by simp [stp, hp]
      rw [e1, e2, ih]
    · have e1 : stp (A ++ O, S) p = (A ++ O, S ++ [p]) := by simp [stp, hp]
      have e2 : stp (O, S) p = (O, S ++ [p]) := by simp [stp, hp]
      rw [e1, e2, ih]
/-- Two rows are ordered each by itself, if the second one begins with one of class 0. -/
theorem ord_join (x y : List Pt) (h : y = [] ∨ ∃ p y', y = p :: y' ∧ p.2 = 0) : ord (x ++ y) = ord x ++ ord y := by
  rcases h with rfl | ⟨p, y', rfl, hp⟩
  · simp [ord, st, isort]
  · unfold ord st
    rw [List.foldl_append]
    obtain ⟨O, S⟩ := x.foldl stp ([], [])
    rw [List.foldl_cons, List.foldl_cons]
    have e1 : stp (O, S) p = ((O ++ isort S) ++ [p], []) := by simp [stp, hp]
    have e2 : stp ([], []) p = ([p], []) := by simp [stp, hp, isort]
    rw [e1, e2, st_prefix]
    simp
theorem ord_cons (p : Pt) (y : List Pt) (hp : p.2 = 0) : ∃ z, ord (p :: y) = p :: z := by
  unfold ord st
  rw [List.foldl_cons]
  have e2 : stp ([], []) p = ([p] ++ [], []) := by simp [stp, hp, isort]
  rw [e2, st_prefix]
  exact ⟨_, rfl⟩
/-- In order. -/
def inO : List Pt → Prop
  | x :: y :: l => (y.2 = 0 ∨ x.2 ≤ y.2) ∧ inO (y :: l)
  | _ => True
theorem inO_append : ∀ {a b : List Pt}, inO (a ++ b) ↔ inO a ∧ inO b ∧ ∀ x y, a.getLast? = some x → b.head? = some y → (y.2 = 0 ∨ x.2 ≤ y.2)
  | [], b => by simp [inO]
  | [x], [] => by simp [inO]
  | [x], y :: b => by
    simp only [List.cons_append, List.nil_append, inO, List.getLast?_singleton, List.head?_cons, Option.some.injEq, true_and]
    constructor
    · rintro ⟨h1, h2⟩
      exact ⟨h2, fun x' y' e1 e2 => by subst e1; subst e2; exact h1⟩
    · rintro ⟨h1, h2⟩
      exact ⟨h2 x y rfl rfl, h1⟩
  | x :: x' :: a, b => by
    have ih := @inO_append (x' :: a) b
    simp only [List.cons_append, inO, List.getLast?_cons_cons] at ih ⊢
    rw [ih]
    constructor
    · rintro ⟨h1, h2, h3, h4⟩; exact ⟨⟨h1, h2⟩, h3, h4⟩
    · rintro ⟨⟨h1, h2⟩, h3, h4⟩; exact ⟨h1, h2, h3, h4⟩
theorem srt_inO : ∀ {l : List Pt}, Srt l → inO l
  | [], _ => trivial
  | [x], _ => trivial
  | x :: y :: l, h => by
    have hc := srt_cons.1 h
    exact ⟨.inr (hc.1 y (by simp)), srt_inO hc.2⟩
theorem mem_isort {x : Pt} {l : List Pt} : x ∈ isort l ↔ x ∈ l := (isort_stb l).perm.mem_iff
theorem ord_perm (l : List Pt) : (ord l).Perm l := by
  have h : ∀ l : List Pt, ((st l).1 ++ (st l).2).Perm l := by
    intro l
    induction l using snoc_ind with
    | h0 => exact .refl _
    | h1 l p ih =>
      rw [st_snoc]
      unfold stp
      split
      · dsimp only
        rw [List.append_nil]
        exact (((List.Perm.refl _).append (isort_stb _).perm).trans ih).append (.refl [p])
      · dsimp only
        rw [← List.append_assoc]
        exact ih.append (.refl [p])
  unfold ord
  exact ((List.Perm.refl _).append (isort_stb _).perm).trans (h l)
theorem st_ok (l : List Pt) : (∀ x ∈ (st l).2, x.2 ≠ 0) ∧ (∀ x, (st l).1.getLast? = some x → x.2 = 0) := by
  induction l using snoc_ind with
  | h0 => exact ⟨fun x hx => (by cases hx), fun x hx => (by cases hx)⟩
  | h1 l p ih =>
    rw [st_snoc]
    unfold stp
    split
    · rename_i hp
      exact ⟨fun x hx => (by cases hx), fun x hx => by simp at hx; subst hx; exact hp⟩
    · rename_i hp
      refine ⟨fun x hx => ?_, ih.2⟩
      rcases List.mem_append.1 hx with hx | hx
      · exact ih.1 x hx
      · simp at hx; subst hx; exact hp
theorem st_inO (l : List Pt) (hl : ∀ x ∈ l, 0 ≤ x.2) : inO (st l).1 := by
  induction l using snoc_ind with
  | h0 => trivial
  | h1 l p ih =>
    have ih := ih (fun x hx => hl x (by simp [hx]))
    rw [st_snoc]
    unfold stp
    split
    · rename_i hp
      dsimp only
      refine inO_append.2 ⟨inO_append.2 ⟨ih, srt_inO (isort_srt _), fun x y hx hy => ?_⟩, trivial, fun x y hx hy => by simp at hy; subst hy; exact .inl hp⟩
      have h1 := (st_ok l).2 x hx
      have h2 : y ∈ isort (st l).2 := List.mem_of_head? hy
      have h3 : y ∈ l := by
        have := (ord_perm l).mem_iff (a := y)
        rw [← this]; unfold ord; exact List.mem_append.2 (.inr h2)
      have := hl y (by simp [h3])
      exact .inr (by omega)
    · exact ih
theorem ord_inO (l : List Pt) (hl : ∀ x ∈ l, 0 ≤ x.2) : inO (ord l) := by
  unfold ord
  refine inO_append.2 ⟨st_inO l hl, srt_inO (isort_srt _), fun x y hx hy => ?_⟩
  have h1 := (st_ok l).2 x hx
  have h2 : y ∈ isort (st l).2 := List.mem_of_head? hy
  have h3 : y ∈ l := by
    have := (ord_perm l).mem_iff (a := y)
    rw [← this]; unfold ord; exact List.mem_append.2 (.inr h2)
  have := hl y h3
  exact .inr (by omega)
theorem ord_id (l : List Pt) (h : inO l) : ord l = l := by
  induction l using snoc_ind with
  | h0 => rfl
  | h1 l p ih =>
    have hh := inO_append.1 h
    have ih := ih hh.1
    by_cases hp : p.2 = 0
    · rw [ord_join l [p] (.inr ⟨p, [], rfl, hp⟩), ih]
      have : ord [p] = [p] := by simp [ord, st, stp, hp, isort]
      rw [this]
    · unfold ord at ih ⊢
      rw [st_snoc]
      have e : stp (st l) p = ((st l).1, (st l).2 ++ [p]) := by unfold stp; rw [if_neg hp]
      rw [e]
      dsimp only
      have hs : Srt (isort (st l).2 ++ [p]) := by
        refine srt_append.2 ⟨isort_srt _, srt_one p, fun x hx y hy => ?_⟩
        simp at hy; subst hy
        cases hlast : (isort (st l).2).getLast? with
        | none => have : isort (st l).2 = [] := by simpa using hlast
                  rw [this] at hx; cases hx
        | some z =>
          have hz : l.getLast? = some z := by rw [← ih, List.getLast?_append, hlast]; rfl
          have hzp := hh.2.2 z y hz rfl
          have hne : isort (st l).2 ≠ [] := fun h => by rw [h] at hx; cases hx
          have hz2 : isort (st l).2 = (isort (st l).2).dropLast ++ [z] := by
            have h1 := List.dropLast_concat_getLast hne
            rw [List.getLast?_eq_some_getLast hne] at hlast
            cases hlast; exact h1.symm
          have hsr := isort_srt (st l).2
          rw [hz2] at hsr hx
          have := srt_last hsr (Int.le_refl _) x hx
          rcases hzp with h0 | h0
          · exact absurd h0 hp
          · omega
      have ht : Stb ((st l).2 ++ [p]) (isort (st l).2 ++ [p]) := (isort_stb _).append (Stb.refl _)
      rw [← isort_of ht hs, ← List.append_assoc, ih]

/-! ### Taken apart, and put together -/
theorem cl_nonneg (r : Int) : 0 ≤ cl r := by
  unfold cl D.fnd
  have h : ∀ (d : List D.Rw) (hd : ∀ x ∈ d, 0 ≤ x.2.2.2.2.2.1), 0 ≤ (D.pickR d r).2.2.2.2.2.1 := fun d hd => by
    unfold D.pickR
    cases he : d.find? (D.inRow r) with
    | none => decide
    | some x => exact hd x (List.mem_of_find?_eq_some he)
  split
  · exact h _ (by decide)
  · split
    · exact h _ (by decide)
    · split
      · exact h _ (by decide)
      · exact h _ (by decide)
theorem map_pt_nonneg {L : List Int} : ∀ x ∈ L.map pt, 0 ≤ x.2 := fun x hx => by
  obtain ⟨r, _, rfl⟩ := List.mem_map.1 hx
  exact cl_nonneg r
/-- Points with their own classes. -/
def Pure (l : List Pt) : Prop := ∀ x ∈ l, x = pt x.1
theorem pure_map (L : List Int) : Pure (L.map pt) := fun x hx => by
  obtain ⟨r, _, rfl⟩ := List.mem_map.1 hx
  rfl
theorem Pure.perm {a b : List Pt} (h : Pure a) (hp : b.Perm a) : Pure b := fun x hx => h x (hp.mem_iff.1 hx)
theorem Pure.back {l : List Pt} (h : Pure l) : (l.map (·.1)).map pt = l := by
  rw [List.map_map]
  conv => rhs; rw [← List.map_id l]
  exact List.map_congr_left (fun x hx => (h x hx).symm)
theorem Pure.nonneg {l : List Pt} (h : Pure l) : ∀ x ∈ l, 0 ≤ x.2 := fun x hx => by rw [h x hx]; exact cl_nonneg _
/-- What a row of points is made of. -/
def Xp (l : List Pt) : List Pt := ((l.map (·.1)).flatMap fd).map pt
theorem Xp_append (a b : List Pt) : Xp (a ++ b) = Xp a ++ Xp b := by simp [Xp]
theorem Xp_one (x : Pt) : Xp [x] = (fd x.1).map pt := by simp [Xp]
/-- Nothing is left to take apart. -/
def Bare (l : List Pt) : Prop := ∀ x ∈ l, D.dcp x.1 = []
theorem Xp_bare {l : List Pt} (hp : Pure l) (hb : Bare l) : Xp l = l := by
  have : (l.map (·.1)).flatMap fd = l.map (·.1) := by
    clear hp
    induction l with
    | nil => rfl
    | cons x l ih =>
      rw [List.map_cons, List.flatMap_cons, fd_nil (hb x (by simp)), ih (fun y hy => hb y (by simp [hy]))]
      rfl
  unfold Xp
  rw [this, hp.back]
theorem bare_nfd (L : List Int) : Bare ((L.flatMap fd).map pt) := fun x hx => by
  obtain ⟨r, hr, rfl⟩ := List.mem_map.1 hx
  obtain ⟨q, _, hq⟩ := List.mem_flatMap.1 hr
  exact fd_done hq
theorem Bare.perm {a b : List Pt} (h : Bare a) (hp : b.Perm a) : Bare b := fun x hx => h x (hp.mem_iff.1 hx)
/-- What is asked of a pair. -/
def okp (p : D.Tri) : Bool := decide (cl p.2.1 = 0) && decide (cl p.2.2 ≠ 0) && decide (cl p.1 = 0) && decide (D.dcp p.1 = [p.2.1, p.2.2])
theorem okp_all : D.prs.all okp = true := by kernel_rfl
theorem pr_cases {a b q : Int} (h : pr a b = (q, true)) : cl a = 0 ∧ cl b ≠ 0 ∧ cl q = 0 ∧ D.dcp q = [a, b] := by
  unfold pr D.prf at h
  cases he : D.prs.find? (fun x => x.2.1 == a && x.2.2 == b) with
  | none => rw [he] at h; simp at h
  | some p =>
    rw [he] at h
    have hm := List.mem_of_find?_eq_some he
    have hf := List.find?_some he
    simp only [Bool.and_eq_true, beq_iff_eq] at hf
    have := List.all_eq_true.1 okp_all _ hm
    simp only [okp, Bool.and_eq_true, decide_eq_true_eq] at this
    obtain ⟨⟨⟨h1, h2⟩, h3⟩, h4⟩ := this
    simp only [Prod.mk.injEq, and_true] at h
    rw [hf.1] at h1 h4
    rw [hf.2] at h2 h4
    rw [h] at h3 h4
    exact ⟨h1, h2, h3, h4⟩
/-- What is kept while it is put together: the marks behind are marks, in order, none above the last one that came. -/
structure Keeps (t : TS) (c : Int) : Prop where
  marks : ∀ b ∈ t.2, b.2 ≠ 0
  srt : Srt t.2
  le : ∀ b ∈ t.2, b.2 ≤ c
  pure : Pure (tout t)
theorem keeps_app {t : TS} {c' : Int} {c : Pt} (h : Keeps t c') (hc : c = pt c.1) (hle : c.2 = 0 ∨ c' ≤ c.2) : Keeps (app t c) c.2 := by
  have hp : Pure (tout (app t c)) := by
    rw [app_out]
    intro x hx
    rcases List.mem_append.1 hx with hx | hx
    · exact h.pure x hx
    · simp at hx; subst hx; exact hc
  unfold app at hp ⊢
  split
  · exact ⟨fun b hb => (by cases hb), Srt.nil, fun b hb => (by cases hb), by rename_i h0; rw [if_pos h0] at hp; exact hp⟩
  · rename_i h0
    rw [if_neg h0] at hp
    have hl : c' ≤ c.2 := by rcases hle with h1 | h1; exact absurd h1 h0; exact h1
    refine ⟨fun b hb => ?_, srt_append.2 ⟨h.srt, srt_one c, fun x hx y hy => ?_⟩, fun b hb => ?_, hp⟩
    · rcases List.mem_append.1 hb with hb | hb
      · exact h.marks b hb
      · simp at hb; subst hb; exact h0
    · simp at hy; subst hy; have := h.le x hx; omega
    · rcases List.mem_append.1 hb with hb | hb
      · have := h.le b hb; omega
      · simp at hb; subst hb; exact Int.le_refl _
theorem rch_all {B : List Pt} {c : Pt} (hs : Srt B) (h : rch B c = true) : ∀ b ∈ B, b.2 < c.2 := by
  intro b hb
  unfold rch at h
  cases hl : B.getLast? with
  | none => have : B = [] := by simpa using hl
            rw [this] at hb; cases hb
  | some z =>
    rw [hl] at h
    have h := of_decide_eq_true h
    have hne : B ≠ [] := fun e => by rw [e] at hb; cases hb
    have hz2 : B = B.dropLast ++ [z] := by
      have h1 := List.dropLast_concat_getLast hne
      rw [List.getLast?_eq_some_getLast hne] at hl
      cases hl; exact h1.symm
    rw [hz2] at hs hb
    have := srt_last hs (Int.le_refl _) b hb
    omega
/-- A step: either c goes behind all, or it was put to the last one of class 0. -/
theorem tstep_cases (t : TS) (c : Pt) : tstep t c = app t c ∨ ∃ A s B q, t = (some (A, s), B) ∧ rch B c = true ∧ pr s.1 c.1 = (q, true) ∧ tstep t c = (some (A, (q, s.2)), B) := by
  obtain ⟨_ | ⟨A, s⟩, B⟩ := t
  · exact .inl (tstep_app0 rfl)
  · by_cases h : rch B c = true ∧ (pr s.1 c.1).2 = true
    · refine .inr ⟨A, s, B, (pr s.1 c.1).1, rfl, h.1, by rw [← h.2], ?_⟩
      unfold tstep; dsimp only; rw [if_pos h]
    · left
      unfold tstep app
      dsimp only
      rw [if_neg h]
      rfl
theorem keeps_tst (l : List Pt) (hp : Pure l) (hi : inO l) : ∃ c', Keeps (tst l) c' ∧ ∀ x, l.getLast? = some x → c' = x.2 := by
  induction l using snoc_ind with
  | h0 => exact ⟨0, ⟨fun b hb => (by cases hb), Srt.nil, fun b hb => (by cases hb), fun x hx => (by cases hx)⟩, fun x hx => (by cases hx)⟩
  | h1 l c ih =>
    have hh := inO_append.1 hi
    obtain ⟨c', hk, hl⟩ := ih (fun x hx => hp x (by simp [hx])) hh.1
    have hc := hp c (by simp)
    have hle : c.2 = 0 ∨ c' ≤ c.2 ∨ l = [] := by
      cases hlast : l.getLast? with
      | none => exact .inr (.inr (by simpa using hlast))
      | some z =>
        have h1 := hl z hlast
        rcases hh.2.2 z c hlast rfl with h | h
        · exact .inl h
        · exact .inr (.inl (by omega))
    refine ⟨c.2, ?_, fun x hx => by simp at hx; rw [hx]⟩
    rw [tst_snoc]
    have happ : Keeps (app (tst l) c) c.2 := by
      rcases hle with h | h | h
      · exact keeps_app hk hc (.inl h)
      · exact keeps_app hk hc (.inr h)
      · subst h
        have hk0 : Keeps (tst []) c.2 := ⟨fun b hb => (by cases hb), Srt.nil, fun b hb => (by cases hb), fun x hx => (by cases hx)⟩
        exact keeps_app hk0 hc (.inr (Int.le_refl _))
    rcases tstep_cases (tst l) c with h | ⟨A, s, B, q, ht, hr, hq, h⟩
    · rw [h]; exact happ
    · rw [h]
      have hpc := pr_cases hq
      rw [ht] at hk
      have hlt := rch_all hk.srt hr
      refine ⟨hk.marks, hk.srt, fun b hb => by have := hlt b hb; omega, ?_⟩
      intro x hx
      have hs : s = pt s.1 := hk.pure s (by simp [tout])
      have hx' : x ∈ A ++ (q, s.2) :: B := hx
      rcases List.mem_append.1 hx' with hx' | hx'
      · exact hk.pure x (by simp [tout, hx'])
      · rcases List.mem_cons.1 hx' with rfl | hx'
        · show (q, s.2) = (q, cl q)
          have : s.2 = cl s.1 := by rw [hs]; rfl
          rw [this, hpc.1, hpc.2.2.1]
        · exact hk.pure x (by simp [tout, hx'])
/-- What was put together is taken apart as it was. -/
theorem ord_comp (l : List Pt) (hp : Pure l) (hb : Bare l) (hi : inO l) : ∀ R, ord (Xp (tout (tst l)) ++ R) = ord (Xp l ++ R) := by
  induction l using snoc_ind with
  | h0 => intro R; rfl
  | h1 l c ih =>
    intro R
    have hh := inO_append.1 hi
    have hp' : Pure l := fun x hx => hp x (by simp [hx])
    have ih := ih hp' (fun x hx => hb x (by simp [hx])) hh.1
    obtain ⟨c', hk, _⟩ := keeps_tst l hp' hh.1
    have hcp := hp c (by simp)
    have hcb := hb c (by simp)
    have hXc : Xp [c] = [c] := by rw [Xp_one, fd_nil hcb]; simp [← hcp]
    rw [tst_snoc, Xp_append, List.append_assoc, ← ih]
    rcases tstep_cases (tst l) c with h | ⟨A, s, B, q, ht, hr, hq, h⟩
    · rw [h, app_out, Xp_append, List.append_assoc]
    · rw [h, ht]
      rw [ht] at hk
      have hpc := pr_cases hq
      have hlt := rch_all hk.srt hr
      have hc2 : c.2 = cl c.1 := by rw [hcp]; rfl
      have hBp : Pure B := fun x hx => hk.pure x (by simp [tout, hx])
      have hBb : Bare B := fun x hx => by
        by_cases hd : D.dcp x.1 = []
        · exact hd
        · exfalso
          have h0 := (keys_at (keys_of (by simpa using hd))).2.2.1
          have h1 := hk.marks x hx
          have : x.2 = cl x.1 := by rw [hBp x hx]; rfl
          omega
      have hXB : Xp B = B := Xp_bare hBp hBb
      have e1 : Xp (tout (some (A, (q, s.2)), B)) = Xp A ++ ((fd s.1).map pt ++ (c :: B)) := by
        have hq2 : fd q = fd s.1 ++ [c.1] := by
          rw [fd_cons (by rw [hpc.2.2.2]; simp), hpc.2.2.2]
          simp [fd_nil hcb]
        show Xp (A ++ (q, s.2) :: B) = _
        rw [Xp_append, show (q, s.2) :: B = [(q, s.2)] ++ B from rfl, Xp_append, hXB, Xp_one]
        dsimp only
        rw [hq2]
        simp [← hcp]
      have e2 : Xp (tout (some (A, s), B)) = Xp A ++ ((fd s.1).map pt ++ B) := by
        show Xp (A ++ s :: B) = _
        rw [Xp_append, show s :: B = [s] ++ B from rfl, Xp_append, hXB, Xp_one]
      rw [e1, e2, hXc]
      have hc0 : c.2 ≠ 0 := by rw [hc2]; exact hpc.2.1
      have := ord_move B c hc0 (fun b hbm => ⟨hk.marks b hbm, fun e => by have := hlt b hbm; omega⟩) (Xp A ++ (fd s.1).map pt) R
      simpa using this
theorem nfd_ok (L : List Int) : Pure (ord ((L.flatMap fd).map pt)) ∧ Bare (ord ((L.flatMap fd).map pt)) ∧ inO (ord ((L.flatMap fd).map pt)) :=
  ⟨(pure_map _).perm (ord_perm _), (bare_nfd L).perm (ord_perm _), ord_inO _ map_pt_nonneg⟩
theorem ord_ord (L : List Int) : ordI (ordI L) = ordI L := by
  unfold ordI
  have hp : Pure (ord (L.map pt)) := (pure_map L).perm (ord_perm _)
  rw [hp.back, ord_id _ (ord_inO _ map_pt_nonneg)]
theorem nfd_nfd (L : List Int) : nfdI (nfdI L) = nfdI L := by
  obtain ⟨h1, h2, h3⟩ := nfd_ok L
  have : nfdI (nfdI L) = (ord (Xp (ord ((L.flatMap fd).map pt)))).map (·.1) := rfl
  rw [this, Xp_bare h1 h2, ord_id _ h3]; rfl
theorem nfc_nfd (L : List Int) : nfcI (nfdI L) = nfcI L := by
  obtain ⟨h1, h2, h3⟩ := nfd_ok L
  have : nfcI (nfdI L) = (comp (ord (Xp (ord ((L.flatMap fd).map pt))))).map (·.1) := rfl
  rw [this, Xp_bare h1 h2, ord_id _ h3]; rfl
theorem back_comp (L : List Int) : ord (Xp (comp (ord ((L.flatMap fd).map pt)))) = ord ((L.flatMap fd).map pt) := by
  obtain ⟨h1, h2, h3⟩ := nfd_ok L
  have := ord_comp _ h1 h2 h3 []
  rw [List.append_nil, List.append_nil, Xp_bare h1 h2, ord_id _ h3] at this
  exact this
theorem nfd_nfc (L : List Int) : nfdI (nfcI L) = nfdI L := by
  have : nfdI (nfcI L) = (ord (Xp (comp (ord ((L.flatMap fd).map pt))))).map (·.1) := rfl
  rw [this, back_comp]; rfl
theorem nfc_nfc (L : List Int) : nfcI (nfcI L) = nfcI L := by
  have : nfcI (nfcI L) = (comp (ord (Xp (comp (ord ((L.flatMap fd).map pt)))))).map (·.1) := rfl
  rw [this, back_comp]; rfl
theorem ordI_perm (L : List Int) : (ordI L).Perm L := by
  unfold ordI
  have h := (ord_perm (L.map pt)).map (·.1)
  have e : (L.map pt).map (·.1) = L := by
    rw [List.map_map]
    conv => rhs; rw [← List.map_id L]
    rfl
  rw [e] at h; exact h
end Go.Proofs.YtpkegjbmnilmdaaDoor.N
/- Plain facts: two rows are put together each by itself, if the second one begins with one of class 0. -/
namespace Go.Proofs.YtpkegjbmnilmdaaDoor.N
open Go.RowKit
set_option linter.unusedVariables false

theorem nfd_begins (b : List Int) (h : b = [] ∨ ∃ r b', b = r :: b' ∧ cl r = 0) : (b.flatMap fd).map pt = [] ∨ ∃ p y', (b.flatMap fd).map pt = p :: y' ∧ p.2 = 0 := by
  rcases h with rfl | ⟨r, b', rfl, hr⟩
  · exact .inl rfl
  · have h1 := (fd_len r).1
    have h2 := fd_head hr
    cases hf : fd r with
    | nil => rw [hf] at h1; simp at h1
    | cons c l =>
      rw [hf] at h2
      exact .inr ⟨pt c, (l ++ b'.flatMap fd).map pt, by simp [hf], h2⟩
theorem nfd_join (a b : List Int) (h : b = [] ∨ ∃ r b', b = r :: b' ∧ cl r = 0) : nfdI (a ++ b) = nfdI a ++ nfdI b := by
  unfold nfdI
  rw [List.flatMap_append, List.map_append, ord_join _ _ (nfd_begins b h), List.map_append]
/-- What stands ahead stays ahead. -/
def pre (X : List Pt) : TS → TS
  | (some (A, s), B) => (some (X ++ A, s), B)
  | (none, B) => (none, X ++ B)
theorem tstep_pre (X A B : List Pt) (s c : Pt) : tstep (some (X ++ A, s), B) c = pre X (tstep (some (A, s), B) c) ∧ ∃ A' s' B', tstep (some (A, s), B) c = (some (A', s'), B') := by
  unfold tstep
  dsimp only
  split
  · exact ⟨rfl, _, _, _, rfl⟩
  · split
    · exact ⟨by simp [pre], _, _, _, rfl⟩
    · exact ⟨rfl, _, _, _, rfl⟩
theorem tout_pre (X A B : List Pt) (s : Pt) : tout (pre X (some (A, s), B)) = X ++ tout (some (A, s), B) := by simp [pre, tout]
theorem tfold_pre (y : List Pt) : ∀ (X A B : List Pt) (s : Pt), tout (y.foldl tstep (some (X ++ A, s), B)) = X ++ tout (y.foldl tstep (some (A, s), B)) := by
  induction y with
  | nil => intro X A B s; simp [tout]
  | cons c y ih =>
    intro X A B s
    rw [List.foldl_cons, List.foldl_cons]
    obtain ⟨h1, A', s', B', h2⟩ := tstep_pre X A B s c
    rw [h1, h2]
    exact ih X A' B' s'
theorem tstep_zero (t : TS) (p : Pt) (hp : p = pt p.1) (h0 : p.2 = 0) : tstep t p = (some (tout t, p), []) := by
  rcases tstep_cases t p with h | ⟨A, s, B, q, ht, hr, hq, h⟩
  · rw [h]; unfold app; rw [if_pos h0]
  · have := (pr_cases hq).2.1
    have h2 : p.2 = cl p.1 := by rw [hp]; rfl
    omega
theorem comp_join (x y : List Pt) (h : y = [] ∨ ∃ p y', y = p :: y' ∧ p.2 = 0 ∧ p = pt p.1) : comp (x ++ y) = comp x ++ comp y := by
  rcases h with rfl | ⟨p, y', rfl, h0, hp⟩
  · simp [comp, tst, tout]
  · unfold comp tst
    rw [List.foldl_append, List.foldl_cons, List.foldl_cons, tstep_zero _ p hp h0, tstep_zero _ p hp h0]
    have := tfold_pre y' (tout (x.foldl tstep (none, []))) [] [] p
    rw [List.append_nil] at this
    exact this
theorem nfc_join (a b : List Int) (h : b = [] ∨ ∃ r b', b = r :: b' ∧ cl r = 0) : nfcI (a ++ b) = nfcI a ++ nfcI b := by
  unfold nfcI
  have hb := nfd_begins b h
  rw [List.flatMap_append, List.map_append, ord_join _ _ hb, comp_join, List.map_append]
  rcases hb with hb | ⟨p, y', hb, h0⟩
  · rw [hb]; exact .inl rfl
  · have hp : p = pt p.1 := pure_map _ p (by rw [hb]; simp)
    rw [hb]
    obtain ⟨z, hz⟩ := ord_cons p y' h0
    exact .inr ⟨p, z, hz, h0, hp⟩
end Go.Proofs.YtpkegjbmnilmdaaDoor.N
/- The contracts of copied, Same and works. -/
namespace Go.Proofs.YtpkegjbmnilmdaaDoor.N
open Go.RowKit
set_option linter.unusedVariables false

theorem u_ints {W : World} {v : Value} {zs : List Int} (h : Row21 W v zs) : U.IntsAt W v zs := by
  obtain ⟨a, cap, rfl, hf⟩ := h
  by_cases h0 : zs.length = 0
  · exact .inl ⟨List.length_eq_zero_iff.1 h0, a, cap, by rw [h0]⟩
  · obtain ⟨b, off, cur, rfl, hg, hc⟩ := hf (by omega)
    exact .inr ⟨by omega, b, off, cap, rfl, fun j hj => by simp [World.cell?, hg, hc j hj]⟩

theorem Row21.new (W : World) (zs : List Int) (n cap : Nat) (hn : n = zs.length) : Row21 (W.alloc (.cells (zs.map (Value.int .i32)).toArray 21)) (.slice (some ⟨W.heap.size, 0, none⟩) n cap) zs := by
  subst hn
  refine ⟨_, cap, rfl, fun _ => ⟨W.heap.size, 0, _, rfl, heap_alloc_last W _, fun j hj => ?_⟩⟩
  simp [List.getElem?_eq_getElem hj]
theorem own_get {W : World} {base n : Nat} {v : Value} {zs : List Int} (h : W.ownsRow base 21 1 v n (zs.map (Value.int .i32))) (hn : n = zs.length) (hp : 0 < n) : ∃ g cap, v = .slice (some ⟨g, 0, none⟩) n cap ∧ g < W.heap.size ∧ ∀ j, j < n → W.cell? ⟨g, j, none⟩ = some (.int .i32 (zs[j]?.getD 0)) := by
  have h2 := Row21.of_own hn h
  rcases h.2 with ⟨rfl, h0⟩ | ⟨g, cap, cur, rfl, _⟩
  · omega
  · obtain ⟨b, off, e, hb, hc⟩ := Row21.cell h2 hn (by omega)
    cases e
    exact ⟨g, cap, rfl, hb, fun j hj => by have := hc j (by omega); rwa [Nat.zero_add] at this⟩
theorem w1 : nfcI [115, 775, 803] = [7785] := by kernel_rfl
theorem w2 : nfdI [7785] = [115, 803, 775] := by kernel_rfl
theorem w3 : ordI [97, 769, 807] = [97, 807, 769] := by kernel_rfl
theorem w4 : (decide (nfcI [65, 778] = [65, 778])) = false := by kernel_rfl
theorem w5 : nfcI (U.dec (U.bn ⟨#[65, 204, 138]⟩)) = [197] := by kernel_rfl
theorem w6 {t : ByteArray} (h : textR ⟨#[65, 204, 138]⟩ t) : t = ⟨#[195, 133]⟩ := by
  obtain ⟨r, h⟩ := h
  rw [w5] at h
  rcases h with ⟨_, _, h⟩ | ⟨h, _⟩
  · exact U.bn_inj (h.trans (by kernel_rfl))
  · exact absurd h (by decide)

end Go.Proofs.YtpkegjbmnilmdaaDoor.N
/- The walk of NormRests: it returns true, whatever row. -/
namespace Go.Proofs.YtpkegjbmnilmdaaDoor.N
open Go.RowKit
set_option linter.unusedVariables false

theorem own_sh {base n : Nat} {v : Value} {X : List Value} {W : World} (h : W.ownsRow base 21 1 v n X) : ∃ a cap, v = .slice a n cap := by
  rcases h.2 with ⟨rfl, h0⟩ | ⟨g, cap, cur, rfl, _⟩
  · exact ⟨none, 0, by rw [h0]⟩
  · exact ⟨_, cap, rfl⟩
theorem dec_true {α : Type} [DecidableEq α] {a b : α} (h : a = b) : decide (a = b) = true := decide_eq_true h

end Go.Proofs.YtpkegjbmnilmdaaDoor.N
/- The walk of NormJoins: it returns true, whatever two rows. -/
namespace Go.Proofs.YtpkegjbmnilmdaaDoor.N
open Go.RowKit
set_option linter.unusedVariables false

theorem cl_ref (r : Int) : (D.rfnd r).2.2.2.2.2.2.2.2.1 = cl r := by unfold cl; rw [D.fnd_prj]; rfl
theorem below_own {w1 w2 w3 : World} {v : Value} {n : Nat} {X : List Value} (hB : Below w1.heap.size w1 w2) (h : w2.ownsRow w1.heap.size 21 1 v n X) (hg : w2.grownBy w3 v.ownBlock) : Below w1.heap.size w1 w3 :=
  hB.grown hg hB.size (fun k e => (h.lt k e).1)
theorem wpList_unguard {P : Program} {ops : Array Oper} {Q : Exit → Act → World → Prop} {a : Act} {w : World} {rest : List Oper} {o : Oper}
    (hw : Region.wanted o (yielded ops a.tmps) = true) (h : wpList P ops Q ({ o with guard := none } :: rest) a w) : wpList P ops Q (o :: rest) a w := by
  have h0 : Region.wanted { o with guard := none } (yielded ops a.tmps) = true := rfl
  simp only [wpList, h0, hw, if_true] at h ⊢
  exact h

end Go.Proofs.YtpkegjbmnilmdaaDoor.N
