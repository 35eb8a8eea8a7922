/- The contracts of between, nearest, pass and sweep. -/
import Derived.Test.YtlgnnljleooenaaDoorB
import Derived.Test.YtlgnnljleooenaaDoorP
import Derived.Lib.SmallJoins
import Derived.Deep.AppendLies
import Derived.Deep.RegionHeld3
namespace Go.Proofs.YtlgnnljleooenaaDoor
open Go.RowKit
set_option linter.unusedVariables false

/-- The least of both heads. -/
def near (a b : List Int) : Int :=
  match a, b with
  | [], b => b[0]?.getD 0
  | a :: _, [] => a
  | a :: _, b :: _ => if b < a then b else a

set_option maxRecDepth 100000 in
set_option maxHeartbeats 1000000 in
theorem nearest_any (v u : Value) (a b : List Int) (ha : a.length ≤ 17179869184) (hb : b.length ≤ 17179869184) (hne : 0 < a.length ∨ 0 < b.length) (w : World) (hv : IntsAt w v a) (hu : IntsAt w u b) :
    Calls Tryd.prog 47 #[v, u] w fun e W' => e = .returned (.int .i32 (near a b)) ∧ ∃ n, W' = w.drewN n := by
  obtain ⟨p, cap, rfl, -, hs⟩ := hv
  obtain ⟨p2, cap2, rfl, -, hs2⟩ := hu
  rcases a with _ | ⟨x, a⟩
  · obtain ⟨g, off, rfl, hc⟩ := hs2 (by simpa using hne)
    rcases b with _ | ⟨y, b⟩
    · simp at hne
    have c1 := hc 0 (by simp)
    clear hc hs hs2 hne
    simp only [List.length_nil, List.length_cons, Nat.add_zero, List.getElem?_cons_zero, Option.getD_some] at c1 ⊢ hb
    have b1 : (0 : Int) < ((b.length + 1 : Nat) : Int) := by omega
    have HN : Hid (near [] (y :: b) = y) := rfl
    go_enter Tryd.func47, Tryd.ntmps47
    go_wp2_with fail
    go_quiet (fail)
    go_wp2
    go_ret
    exact ⟨by rw [HN.out]; rfl, _, rfl⟩
  · obtain ⟨g, off, rfl, hc⟩ := hs (by simp)
    have c1 := hc 0 (by simp)
    simp only [List.length_cons, Nat.add_zero, List.getElem?_cons_zero, Option.getD_some] at c1 ⊢ ha
    have b1 : (0 : Int) < ((a.length + 1 : Nat) : Int) := by omega
    clear hc hs hne
    obtain ⟨N, hN⟩ : ∃ N, N = a.length + 1 := ⟨_, rfl⟩
    rw [← hN] at ha b1 ⊢
    have d0 : (N : Int) ≠ 0 := by omega
    have d1 : decide ((N : Int) = 0) = false := by simpa using d0
    have d2 : ((N : Int) == 0) = false := by simpa using d0
    clear hN
    rcases b with _ | ⟨y, b⟩
    · simp only [List.length_nil] at hb hs2 ⊢
      clear hs2
      have HN : Hid (near (x :: a) [] = x) := rfl
      go_enter Tryd.func47, Tryd.ntmps47
      go_wp2_with fail
      go_quiet (fail)
      go_wp2
      go_ret
      exact ⟨by rw [HN.out]; rfl, _, rfl⟩
    · obtain ⟨g2, off2, rfl, hc2⟩ := hs2 (by simp)
      have c2 := hc2 0 (by simp)
      simp only [List.length_cons, Nat.add_zero, List.getElem?_cons_zero, Option.getD_some] at c2 ⊢ hb
      have b2 : (0 : Int) < ((b.length + 1 : Nat) : Int) := by omega
      clear hc2 hs2
      by_cases hyx : y < x
      · have HN : Hid (near (x :: a) (y :: b) = y) := by show (if y < x then y else x) = y; rw [if_pos hyx]
        go_enter Tryd.func47, Tryd.ntmps47
        go_wp2_with fail
        go_quiet (fail)
        go_wp2
        go_ret
        exact ⟨by rw [HN.out]; rfl, _, rfl⟩
      · have HN : Hid (near (x :: a) (y :: b) = x) := by show (if y < x then y else x) = x; rw [if_neg hyx]
        have hyx' : decide (y < x) = false := by simpa using hyx
        go_enter Tryd.func47, Tryd.ntmps47
        go_wp2_with fail
        go_quiet (fail)
        go_wp2
        go_ret
        exact ⟨by rw [HN.out]; rfl, _, rfl⟩

def passed (z : List Int) (e : Int) : Bool := decide (z.head? = some e)
def rest (z : List Int) (e : Int) : List Int := if passed z e = true then z.tail else z
def flip (z : List Int) (e : Int) (inn : Bool) : Bool := xor (passed z e) inn
theorem pass_no (z : List Int) (e : Int) (inn : Bool) (h : passed z e = false) : rest z e = z ∧ flip z e inn = inn := by
  constructor
  · unfold rest; rw [h]; rfl
  · unfold flip; rw [h]; simp
theorem pass_yes (z : List Int) (e : Int) (inn : Bool) (h : passed z e = true) : rest z e = z.tail ∧ flip z e inn = !inn := by
  constructor
  · unfold rest; rw [h]; rfl
  · unfold flip; rw [h]; simp

theorem IntsAt.rest_no {w : World} {v : Value} {z : List Int} {x : Int} (h : rest z x = z) : IntsAt w v z → IntsAt w v (rest z x) := fun k => by rw [h]; exact k
theorem IntsAt.tail_one {w : World} {g off cap n : Nat} {y : Int} {z : List Int} (hz : z.length = 0) (k : IntsAt w (.slice (some ⟨g, off, none⟩) n cap) (y :: z)) : IntsAt w (.slice (some ⟨g, off, none⟩) z.length 0) z :=
  ⟨_, _, rfl, ⟨(fun e => by cases e), by omega⟩, fun hp => by omega⟩
theorem IntsAt.tail_more {w : World} {g off cap n : Nat} {y : Int} {z : List Int} (k : IntsAt w (.slice (some ⟨g, off, none⟩) n cap) (y :: z)) : IntsAt w (.slice (some ⟨g, off + 1, none⟩) z.length (cap - 1)) z := by
  obtain ⟨a, c, e, ⟨h1, h2⟩, h3⟩ := k
  simp only [Value.slice.injEq] at e
  obtain ⟨rfl, rfl, rfl⟩ := e
  simp only [List.length_cons] at h2
  refine ⟨_, _, rfl, ⟨(fun e => by cases e), by omega⟩, fun hp => ⟨g, off + 1, rfl, fun j hj => ?_⟩⟩
  obtain ⟨b, o, e, hc⟩ := h3 (by simp)
  simp only [Option.some.injEq, Addr.mk.injEq] at e
  obtain ⟨rfl, rfl, -⟩ := e
  have := hc (j + 1) (by simpa using hj)
  rw [show off + (j + 1) = off + 1 + j by omega] at this
  simpa using this

set_option maxRecDepth 100000 in
set_option maxHeartbeats 1000000 in
theorem pass_any (v : Value) (z : List Int) (x : Int) (inn : Bool) (hz : z.length ≤ 17179869184) (w : World) (hv : IntsAt w v z) :
    Calls Tryd.prog 48 #[v, .int .i32 x, .bool inn] w fun e W' => (∃ v', e = .returned (.tuple #[v', .bool (flip z x inn)]) ∧ ∀ W0, IntsAt W0 v z → IntsAt W0 v' (rest z x)) ∧ W' = w := by
  obtain ⟨p, cap, rfl, hcap, hs⟩ := hv
  rcases z with _ | ⟨y, z⟩
  · have HN : Hid (rest [] x = [] ∧ flip [] x inn = inn) := pass_no [] x inn rfl
    simp only [List.length_nil] at hs ⊢
    clear hs hcap
    go_enter Tryd.func48, Tryd.ntmps48
    go_wp2
    go_ret2
    exact ⟨⟨_, by rw [HN.out.2]; rfl, fun W0 => IntsAt.rest_no HN.out.1⟩, rfl⟩
  · obtain ⟨g, off, rfl, hc⟩ := hs (by simp)
    have c1 := hc 0 (by simp)
    simp only [List.length_cons, Nat.add_zero, List.getElem?_cons_zero, Option.getD_some] at c1 ⊢ hz
    have b1 : (0 : Int) < ((z.length + 1 : Nat) : Int) := by omega
    clear hc hs
    by_cases hyx : y = x
    · subst hyx
      have HN : Hid (rest (y :: z) y = z ∧ flip (y :: z) y inn = !inn) := pass_yes (y :: z) y inn (by show decide _ = true; simp)
      have hcp : z.length + 1 ≤ cap := hcap.2
      go_enter Tryd.func48, Tryd.ntmps48
      go_wp2
      · go_ret2
        exact ⟨⟨_, by rw [HN.out.2]; rfl, fun W0 k => by rw [HN.out.1]; exact IntsAt.tail_one (by omega) k⟩, rfl⟩
      · go_ret2
        exact ⟨⟨_, by rw [HN.out.2]; rfl, fun W0 k => by rw [HN.out.1]; exact IntsAt.tail_more k⟩, rfl⟩
    · have HN : Hid (rest (y :: z) x = y :: z ∧ flip (y :: z) x inn = inn) := pass_no (y :: z) x inn (by show decide _ = false; simpa using hyx)
      go_enter Tryd.func48, Tryd.ntmps48
      go_wp2
      go_ret2
      exact ⟨⟨_, by rw [HN.out.2]; rfl, fun W0 => IntsAt.rest_no HN.out.1⟩, rfl⟩

theorem btw_take (E : List Int) (n : Nat) : ∀ k, E.length = 2 * n → k < n → btw (E.take (2 * (k + 1))) = btw (E.take (2 * k)) ++ [(E[2 * k]?.getD 0, E[2 * k + 1]?.getD 0 - 1)] := by
  induction n generalizing E with
  | zero => intro k _ h; omega
  | succ n ih =>
    intro k hE hk
    rcases E with _ | ⟨a, _ | ⟨b, t⟩⟩
    · simp at hE
    · simp at hE; omega
    · rcases k with _ | k
      · simp [btw]
      · have h := ih t k (by simp at hE; omega) (by omega)
        have e1 : 2 * (k + 1 + 1) = 2 * (k + 1) + 1 + 1 := by omega
        have e2 : 2 * (k + 1) = 2 * k + 1 + 1 := by omega
        rw [e1, List.take_succ_cons, List.take_succ_cons, btw, h]
        rw [e2, List.take_succ_cons, List.take_succ_cons, btw]
        simp

set_option maxRecDepth 100000 in
set_option maxHeartbeats 3200000 in
theorem between_any (v : Value) (E : List Int) (n : Nat) (hE : E.length = 2 * n) (hn : n ≤ 1000000) (hbd : ∀ e ∈ E, 0 ≤ e ∧ e ≤ 1114112) (w : World) (hv : IntsAt w v E) :
    Calls Tryd.prog 33 #[v] w fun e W' => ∃ v', e = .returned v' ∧ W'.ownsRow w.heap.size 44 2 v' n (flat2 (btw E)) ∧ Below w.heap.size w W' := by
  obtain ⟨i0, hi0, hz0, hz1, hz2⟩ := info_parts Tryd.info44
  obtain ⟨a, cap, rfl, -, hs⟩ := hv
  obtain ⟨N, hN⟩ : ∃ N, N = E.length := ⟨_, rfl⟩
  have HN : Hid (N = E.length) := hN
  have hN2 : N = 2 * n := by omega
  have HN2 : Hid (N = 2 * n) := hN2
  have hN3 : N ≤ 2000000 := by omega
  rw [← hN] at hs ⊢
  clear hN hN2
  have HE : Hid (E.length = 2 * n) := hE
  clear hE
  go_enter Tryd.func33, Tryd.ntmps33
  go_wp2_with fail
  go_loopw [3, 4] (fun v3 i wr => ∃ k j : Nat, k ≤ n ∧ j = 2 * k ∧ i = .int .i64 j ∧ wr.ownsRow w.heap.size 44 2 v3 k (flat2 (btw (E.take (2 * k)))) ∧ Below w.heap.size w wr)
    (fun _ i _ => N - (intOf i).toNat)
  case atStart => exact ⟨0, 0, Nat.zero_le _, rfl, rfl, World.ownsRow_nil _ _ _ _, Below.refl _ _⟩
  case round =>
    obtain ⟨k, j, hk, hj, rfl, hrow, hB⟩ := hrel
    by_cases hlt : k < n
    · have hjN : (j : Int) < (N : Int) := by have := HN2.out; omega
      have hjN2 : (j : Int) + 1 < (N : Int) := by have := HN2.out; omega
      obtain ⟨b, off, rfl, hc⟩ := hs (by omega)
      have g1 := hc j (by omega)
      have g2 := hc (j + 1) (by omega)
      have hb := lt_of_cell g1
      dsimp only at hb
      have c1 := (hB.cell (p := ⟨b, off + j, none⟩) hb).trans g1
      have c2 := (hB.cell (p := ⟨b, off + (j + 1), none⟩) hb).trans g2
      clear hc hs g1 g2
      have hx := hbd (E[j]?.getD 0) (by rw [List.getElem?_eq_getElem (by have := HN.out; omega)]; exact List.getElem_mem _)
      have hy := hbd (E[j + 1]?.getD 0) (by rw [List.getElem?_eq_getElem (by have := HN.out; omega)]; exact List.getElem_mem _)
      have HT : Hid (btw (E.take (2 * (k + 1))) = btw (E.take (2 * k)) ++ [(E[j]?.getD 0, E[j + 1]?.getD 0 - 1)]) := by
        rw [hj]; exact btw_take E n k HE.out hlt
      obtain ⟨x, hxe⟩ : ∃ x, x = E[j]?.getD 0 := ⟨_, rfl⟩
      obtain ⟨y, hye⟩ : ∃ y, y = E[j + 1]?.getD 0 := ⟨_, rfl⟩
      rw [← hxe] at c1 HT hx
      rw [← hye] at c2 HT hy
      clear hxe hye hbd
      have HJ : Hid (j = 2 * k) := hj
      have hj0 : (0 : Int) ≤ (j : Int) := by omega
      have hj1 : (0 : Int) ≤ (j : Int) + 1 := by omega
      have hj9 : (j : Int) ≤ 2000000 := by omega
      clear hj
      obtain ⟨B, hBB⟩ : ∃ B, B = btw (E.take (2 * k)) := ⟨_, rfl⟩
      rw [← hBB] at hrow HT
      clear hBB
      have hne : ∀ g, some g = some b → w.heap.size ≤ g → False := fun g e hg => by cases e; omega
      have hbr : b < wr.heap.size := lt_of_cell c1
      have hwr : IntKind.i64.wrap ((j : Int) + 1) = (j : Int) + 1 := by simp [IntKind.wrap, IntKind.bits, IntKind.signed]; omega
      have hwr2 : IntKind.i32.wrap (y - 1) = y - 1 := by simp [IntKind.wrap, IntKind.bits, IntKind.signed]; omega
      go_wp2_with fail
      go_region_held3 (fun w' => w'.cell? ⟨b, off + j, none⟩ = some (.int .i32 x) ∧ w'.cell? ⟨b, off + (j + 1), none⟩ = some (.int .i32 y))
        (first
          | go_keep
          | (go_split_ands
             refine ⟨?_, ?_⟩
             · (rw [hgrow.cell_far _ (by simp; omega) (fun e => absurd (hrow.lt b e.symm).1 (by omega))]; assumption)
             · (rw [hgrow.cell_far _ (by simp; omega) (fun e => absurd (hrow.lt b e.symm).1 (by omega))]; assumption)))
        ((refine step_append_lies _ (by rfl) _ _ _ (by rfl) w.heap.size 44 i0 _ 2 8 Tryd.underlying22 hi0 hz0 hz1 hz2 rfl (by omega) _ k (flat2 B) (by rfl) ((hrow.alloc _).drew)
            ⟨wr.heap.size, 0, none⟩ 1 1 [.int .i32 x, .int .i32 (y - 1)] (by rfl) (by rfl) (World.news_of_block (cs := #[.int .i32 x, .int .i32 (y - 1)]) (t := 44) (fr := (0, 0)) (heap_alloc_new wr _)) (by simp [Value.oneCell'])
            (by omega) (by unfold maxLen; omega) (by omega) (by simp; exact Nat.le_succ_of_le hB.size) (wr.heap.size + 1) (by simp) ?_; intro gg cap' w1 hown1 hgrow hat hlt1))
      have R : Hid (w1.ownsRow w.heap.size 44 2 (.slice (some ⟨gg, 0, none⟩) (k + 1) cap') (k + 1) (flat2 (btw (E.take (2 * (k + 1)))))) := by
        show w1.ownsRow _ _ _ _ _ _
        rw [HT.out, flat2_append]; exact hown1
      have hB1 : Below w.heap.size w w1 := below_grow (w1 := (wr.alloc (.cells #[.int .i32 x, .int .i32 (y - 1)] 44)).drew) (hB.alloc hB.size _).drew (Nat.le_trans hB.size (by simp)) ((hrow.alloc _).drew) hgrow
      clear hown1 hgrow hat hlt1 hrow c1 c2 HT
      go_wp2
      go_roundw
      case rel => exact ⟨k + 1, j + 2, by omega, by have := HJ.out; omega, by go_num, R.out, hB1⟩
      case measure => simp [intOf]; omega
    · have hkk : k = n := by omega
      rw [hkk, List.take_of_length_le (by have := HE.out; omega)] at hrow
      have hjN : ¬ ((j : Int) < (N : Int)) := by have := HN2.out; omega
      subst hkk
      clear hbd hs
      go_wp2
      go_ret
      exact ⟨_, rfl, hrow, hB⟩

/-- What sweep goes over: the edges that are left, whether it is in the sets, and in the one that counts. -/
def swp (c : Bool → Bool → Bool) : Nat → List Int → List Int → Bool → Bool → Bool → List Int
  | 0, _, _, _, _, _ => []
  | f + 1, a, b, ia, ib, ii =>
    if a.length = 0 ∧ b.length = 0 then []
    else
      let e := near a b
      if c (flip a e ia) (flip b e ib) = ii then swp c f (rest a e) (rest b e) (flip a e ia) (flip b e ib) ii
      else e :: swp c f (rest a e) (rest b e) (flip a e ia) (flip b e ib) (!ii)
theorem rest_len (z : List Int) (e : Int) : (rest z e).length ≤ z.length := by
  unfold rest; split
  · simp
  · exact Nat.le_refl _
theorem rest_shrinks (a b : List Int) (h : 0 < a.length ∨ 0 < b.length) : (rest a (near a b)).length + (rest b (near a b)).length < a.length + b.length := by
  have h1 := rest_len a (near a b)
  have h2 := rest_len b (near a b)
  rcases a with _ | ⟨x, a⟩
  · rcases b with _ | ⟨y, b⟩
    · simp at h
    · have : rest (y :: b) (near [] (y :: b)) = b := (pass_yes (y :: b) _ true (by simp [passed, near])).1
      rw [this] at h2 ⊢
      simp at h1 ⊢
      simp [h1]
  · rcases b with _ | ⟨y, b⟩
    · have : rest (x :: a) (near (x :: a) []) = a := (pass_yes (x :: a) _ true (by simp [passed, near])).1
      rw [this] at h1 ⊢
      simp at h2 ⊢
      simp [h2]
    · by_cases hyx : y < x
      · have hn : near (x :: a) (y :: b) = y := by show (if y < x then y else x) = y; rw [if_pos hyx]
        have : rest (y :: b) (near (x :: a) (y :: b)) = b := (pass_yes (y :: b) _ true (by simp [passed, hn])).1
        rw [this] at h2 ⊢
        simp only [List.length_cons] at h1 h2 ⊢
        omega
      · have hn : near (x :: a) (y :: b) = x := by show (if y < x then y else x) = x; rw [if_neg hyx]
        have : rest (x :: a) (near (x :: a) (y :: b)) = a := (pass_yes (x :: a) _ true (by simp [passed, hn])).1
        rw [this] at h1 ⊢
        simp only [List.length_cons] at h1 h2 ⊢
        omega
theorem swp_done (c : Bool → Bool → Bool) (f : Nat) (a b : List Int) (ia ib ii : Bool) (h : a.length = 0 ∧ b.length = 0) : swp c f a b ia ib ii = [] := by
  cases f with
  | zero => rfl
  | succ f => rw [swp, if_pos h]
theorem swp_same (c : Bool → Bool → Bool) (f : Nat) (a b : List Int) (ia ib ii : Bool) (h : ¬ (a.length = 0 ∧ b.length = 0)) (e : Int) (he : e = near a b) (hc : c (flip a e ia) (flip b e ib) = ii) :
    swp c (f + 1) a b ia ib ii = swp c f (rest a e) (rest b e) (flip a e ia) (flip b e ib) ii := by
  subst he; rw [swp, if_neg h]; exact if_pos hc
theorem swp_turn (c : Bool → Bool → Bool) (f : Nat) (a b : List Int) (ia ib ii : Bool) (h : ¬ (a.length = 0 ∧ b.length = 0)) (e : Int) (he : e = near a b) (hc : ¬ c (flip a e ia) (flip b e ib) = ii) :
    swp c (f + 1) a b ia ib ii = e :: swp c f (rest a e) (rest b e) (flip a e ia) (flip b e ib) (!ii) := by
  subst he; rw [swp, if_neg h]; exact if_neg hc
theorem IntsAt.new1 (w : World) (x : Int) (H : Nat) (hH : w.heap.size = H) : IntsAt (w.alloc (.cells #[.int .i32 x] 21)) (.slice (some ⟨H, 0, none⟩) 1 1) [x] := by
  subst hH
  refine ⟨_, 1, rfl, ⟨(fun e => by cases e), Nat.le_refl _⟩, fun _ => ⟨_, 0, rfl, fun j hj => ?_⟩⟩
  have := news_at w 21 [.int .i32 x] j
  rw [addr_add] at this
  have hj' : j < 1 := hj
  rcases j with _ | j
  · exact this _ rfl
  · omega
def lenV : Value → Nat
  | .slice _ n _ => n
  | _ => 0
theorem IntsAt.lenV {w : World} {v : Value} {z : List Int} (h : IntsAt w v z) : lenV v = z.length := by
  obtain ⟨a, cap, rfl, _⟩ := h; rfl
theorem below_drewN {B : Nat} {a w : World} (h : Below B a w) (n : Nat) : Below B a (w.drewN n) := ⟨h.os, h.tape, h.output, h.size, h.block⟩
theorem ownsRow_drewN {w : World} {base : Nat} {e : TypeId} {size : Nat} {v : Value} {n : Nat} {xs : List Value} {q : Nat} (h : w.ownsRow base e size v n xs) : (w.drewN q).ownsRow base e size v n xs := h
theorem hid' {p : Prop} (h : p) : Hid p := h

/-- What is asked of what counts. -/
def Counts (g : Nat) (c : Bool → Bool → Bool) : Prop := (∀ args W, (callFunc g args).run Tryd.prog W = .ok (.enter g args) W) ∧ ∀ x y W, Calls Tryd.prog g #[.bool x, .bool y] W fun e W' => e = .returned (.bool (c x y)) ∧ W' = W

set_option maxRecDepth 100000 in
set_option maxHeartbeats 3200000 in
theorem sweep_any (g : Nat) (c : Bool → Bool → Bool) (hg : Counts g c) (v u : Value) (A B : List Int) (hA : A.length ≤ 1000000) (hB : B.length ≤ 1000000) (w : World) (hv : IntsAt w v A) (hu : IntsAt w u B) :
    Calls Tryd.prog 41 #[v, u, .func (.func g) #[] #[]] w fun e W' => ∃ v', e = .returned v' ∧ W'.ownsRow w.heap.size 21 1 v' (swp c (A.length + B.length) A B false false false).length ((swp c (A.length + B.length) A B false false false).map (Value.int .i32)) ∧ Below w.heap.size w W' := by
  obtain ⟨hent, hcall⟩ := hg
  obtain ⟨R, hR⟩ : ∃ R, R = swp c (A.length + B.length) A B false false false := ⟨_, rfl⟩
  have HR : Hid (R = swp c (A.length + B.length) A B false false false) := hR
  rw [← hR]
  clear hR
  go_enter Tryd.func41, Tryd.ntmps41
  go_wp2_with fail
  go_loopw [0, 1, 7, 8, 9, 10] (fun v0 v1 v7 u8 u9 u10 wr => ∃ (za zb zo : List Int) (ia ib ii : Bool) (f : Nat), IntsAt w v0 za ∧ IntsAt w v1 zb ∧ u8 = .bool ia ∧ u9 = .bool ib ∧ u10 = .bool ii ∧ wr.ownsRow w.heap.size 21 1 v7 zo.length (zo.map (Value.int .i32)) ∧
      zo ++ swp c f za zb ia ib ii = R ∧ za.length + zb.length ≤ f ∧ zo.length + f ≤ A.length + B.length ∧ Below w.heap.size w wr)
    (fun v0 v1 _ _ _ _ _ => lenV v0 + lenV v1)
  case atStart => exact ⟨A, B, [], false, false, false, A.length + B.length, hv, hu, rfl, rfl, rfl, World.ownsRow_nil _ _ _ _, HR.out.symm, Nat.le_refl _, by simp, Below.refl _ _⟩
  case round =>
    obtain ⟨za, zb, zo, ia, ib, ii, f, h0, h1, rfl, rfl, rfl, hrow, hout, hf, hlen, hb⟩ := hrel
    obtain ⟨a0, cap0, rfl⟩ : ∃ a c, u0 = .slice a za.length c := by obtain ⟨a, c, e, _⟩ := h0; exact ⟨a, c, e⟩
    obtain ⟨a1, cap1, rfl⟩ : ∃ a c, u1 = .slice a zb.length c := by obtain ⟨a, c, e, _⟩ := h1; exact ⟨a, c, e⟩
    have HO : Hid (zo ++ swp c f za zb ia ib ii = R) := hout
    clear hout
    by_cases hz : za.length = 0 ∧ zb.length = 0
    · have HZ : Hid (zo = R) := by
        show _ = _
        rw [← HO.out, swp_done c f za zb ia ib ii hz]; simp
      have hz1 : ¬ (0 : Int) < (za.length : Int) := by omega
      have hz2 : ¬ (0 : Int) < (zb.length : Int) := by omega
      obtain ⟨ha, hb'⟩ := hz
      go_wp2
      go_ret
      exact ⟨_, rfl, by rw [← HZ.out]; exact hrow, hb⟩
    · have hpos : 0 < za.length ∨ 0 < zb.length := by omega
      obtain ⟨f', rfl⟩ : ∃ f', f = f' + 1 := ⟨f - 1, by omega⟩
      by_cases hz0 : 0 < za.length
      · have hz1 : (0 : Int) < (za.length : Int) := by omega
        go_wp2_with fail
        refine (nearest_any _ _ za zb (by omega) (by omega) hpos _ (h0.below hb (Nat.le_refl _)) (h1.below hb (Nat.le_refl _))).mono ?_
        rintro e w1 ⟨rfl, n1, rfl⟩
        have hb1 := below_drewN hb n1
        have hrow1 := ownsRow_drewN (q := n1) hrow
        obtain ⟨E, hE⟩ : ∃ E, E = near za zb := ⟨_, rfl⟩
        have HE : Hid (E = near za zb) := hE
        rw [← hE]
        clear hE
        have hsh : (rest za E).length + (rest zb E).length < za.length + zb.length := by rw [HE.out]; exact rest_shrinks za zb hpos
        generalize wr.drewN n1 = w2 at hb1 hrow1 ⊢
        clear hb hrow
        go_wp2_with fail
        refine (pass_any _ za E ia (by omega) _ (h0.below hb1 (Nat.le_refl _))).mono ?_
        rintro e w3 ⟨⟨va, rfl, hva⟩, rfl⟩
        have hva' := hva w h0
        obtain ⟨a3, cap3, rfl⟩ : ∃ a c, va = .slice a (rest za E).length c := by obtain ⟨a, c, e, _⟩ := hva'; exact ⟨a, c, e⟩
        go_wp2_with fail
        refine (pass_any _ zb E ib (by omega) _ (h1.below hb1 (Nat.le_refl _))).mono ?_
        rintro e w4 ⟨⟨vb, rfl, hvb⟩, rfl⟩
        have hvb' := hvb w h1
        obtain ⟨a4, cap4, rfl⟩ : ∃ a c, vb = .slice a (rest zb E).length c := by obtain ⟨a, c, e, _⟩ := hvb'; exact ⟨a, c, e⟩
        clear hva hvb
        go_wp2_with fail
        refine (hcall _ _ _).mono ?_
        rintro e w5 ⟨rfl, rfl⟩
        by_cases hcc : c (flip za E ia) (flip zb E ib) = ii
        · have HS : Hid (zo ++ swp c f' (rest za E) (rest zb E) (flip za E ia) (flip zb E ib) ii = R) := by
            show _ = _
            rw [← HO.out, swp_same c f' za zb ia ib ii (by omega) E HE.out hcc]
          rw [hcc]
          clear hcc
          go_wp2
          go_roundw
          case rel => exact ⟨rest za E, rest zb E, zo, _, _, ii, f', hva', hvb', rfl, rfl, rfl, hrow1, HS.out, by omega, by omega, hb1⟩
          case measure => simp [lenV]; omega
        · have hne : c (flip za E ia) (flip zb E ib) = !ii := by
            cases h : c (flip za E ia) (flip zb E ib) <;> cases h2 : ii <;> simp_all
          have HS : Hid ((zo ++ [E]) ++ swp c f' (rest za E) (rest zb E) (flip za E ia) (flip zb E ib) (!ii) = R) := by
            show _ = _
            rw [← HO.out, swp_turn c f' za zb ia ib ii (by omega) E HE.out hcc, List.append_assoc]; rfl
          rw [hne]
          clear hcc hne
          go_wp2_with ((at_builtin; refine wpList_append_ints rfl _ _ rfl w.heap.size _ _ zo rfl (hrow1.alloc _) _ [E] rfl (IntsAt.new1 _ _ _ rfl) (by simp only [List.length_cons, List.length_nil]; omega) (Nat.le_trans hb1.size (by simp)) ?_; intro v' w6 hown' hgrow'; refine Hid.out ?_))
          refine hid' ?_
          have hb6 := below_grow (hb1.alloc hb1.size _) (Nat.le_trans hb1.size (by simp)) (hrow1.alloc _) hgrow'
          have HR6 : Hid (w6.ownsRow w.heap.size 21 1 v' (zo ++ [E]).length ((zo ++ [E]).map (Value.int .i32))) := by
            show w6.ownsRow _ _ _ _ _ _
            rw [List.length_append]; exact hown'
          have hl6 : (zo ++ [E]).length = zo.length + 1 := by simp
          have HL6 : Hid ((zo ++ [E]).length = zo.length + 1) := hl6
          clear hown' hgrow' hrow1 hl6
          go_wp2
          go_roundw
          case rel => exact ⟨rest za E, rest zb E, zo ++ [E], _, _, !ii, f', hva', hvb', rfl, rfl, rfl, HR6.out, HS.out, by omega, by have := HL6.out; omega, hb6⟩
          case measure => simp [lenV]; omega
      · have hz1 : ¬ (0 : Int) < (za.length : Int) := by omega
        have hz2 : (0 : Int) < (zb.length : Int) := by omega
        go_wp2_with fail
        refine (nearest_any _ _ za zb (by omega) (by omega) hpos _ (h0.below hb (Nat.le_refl _)) (h1.below hb (Nat.le_refl _))).mono ?_
        rintro e w1 ⟨rfl, n1, rfl⟩
        have hb1 := below_drewN hb n1
        have hrow1 := ownsRow_drewN (q := n1) hrow
        obtain ⟨E, hE⟩ : ∃ E, E = near za zb := ⟨_, rfl⟩
        have HE : Hid (E = near za zb) := hE
        rw [← hE]
        clear hE
        have hsh : (rest za E).length + (rest zb E).length < za.length + zb.length := by rw [HE.out]; exact rest_shrinks za zb hpos
        generalize wr.drewN n1 = w2 at hb1 hrow1 ⊢
        clear hb hrow
        go_wp2_with fail
        refine (pass_any _ za E ia (by omega) _ (h0.below hb1 (Nat.le_refl _))).mono ?_
        rintro e w3 ⟨⟨va, rfl, hva⟩, rfl⟩
        have hva' := hva w h0
        obtain ⟨a3, cap3, rfl⟩ : ∃ a c, va = .slice a (rest za E).length c := by obtain ⟨a, c, e, _⟩ := hva'; exact ⟨a, c, e⟩
        go_wp2_with fail
        refine (pass_any _ zb E ib (by omega) _ (h1.below hb1 (Nat.le_refl _))).mono ?_
        rintro e w4 ⟨⟨vb, rfl, hvb⟩, rfl⟩
        have hvb' := hvb w h1
        obtain ⟨a4, cap4, rfl⟩ : ∃ a c, vb = .slice a (rest zb E).length c := by obtain ⟨a, c, e, _⟩ := hvb'; exact ⟨a, c, e⟩
        clear hva hvb
        go_wp2_with fail
        refine (hcall _ _ _).mono ?_
        rintro e w5 ⟨rfl, rfl⟩
        by_cases hcc : c (flip za E ia) (flip zb E ib) = ii
        · have HS : Hid (zo ++ swp c f' (rest za E) (rest zb E) (flip za E ia) (flip zb E ib) ii = R) := by
            show _ = _
            rw [← HO.out, swp_same c f' za zb ia ib ii (by omega) E HE.out hcc]
          rw [hcc]
          clear hcc
          go_wp2
          go_roundw
          case rel => exact ⟨rest za E, rest zb E, zo, _, _, ii, f', hva', hvb', rfl, rfl, rfl, hrow1, HS.out, by omega, by omega, hb1⟩
          case measure => simp [lenV]; omega
        · have hne : c (flip za E ia) (flip zb E ib) = !ii := by
            cases h : c (flip za E ia) (flip zb E ib) <;> cases h2 : ii <;> simp_all
          have HS : Hid ((zo ++ [E]) ++ swp c f' (rest za E) (rest zb E) (flip za E ia) (flip zb E ib) (!ii) = R) := by
            show _ = _
            rw [← HO.out, swp_turn c f' za zb ia ib ii (by omega) E HE.out hcc, List.append_assoc]; rfl
          rw [hne]
          clear hcc hne
          go_wp2_with ((at_builtin; refine wpList_append_ints rfl _ _ rfl w.heap.size _ _ zo rfl (hrow1.alloc _) _ [E] rfl (IntsAt.new1 _ _ _ rfl) (by simp only [List.length_cons, List.length_nil]; omega) (Nat.le_trans hb1.size (by simp)) ?_; intro v' w6 hown' hgrow'; refine Hid.out ?_))
          refine hid' ?_
          have hb6 := below_grow (hb1.alloc hb1.size _) (Nat.le_trans hb1.size (by simp)) (hrow1.alloc _) hgrow'
          have HR6 : Hid (w6.ownsRow w.heap.size 21 1 v' (zo ++ [E]).length ((zo ++ [E]).map (Value.int .i32))) := by
            show w6.ownsRow _ _ _ _ _ _
            rw [List.length_append]; exact hown'
          have hl6 : (zo ++ [E]).length = zo.length + 1 := by simp
          have HL6 : Hid ((zo ++ [E]).length = zo.length + 1) := hl6
          clear hown' hgrow' hrow1 hl6
          go_wp2
          go_roundw
          case rel => exact ⟨rest za E, rest zb E, zo ++ [E], _, _, !ii, f', hva', hvb', rfl, rfl, rfl, HR6.out, HS.out, by omega, by have := HL6.out; omega, hb6⟩
          case measure => simp [lenV]; omega
end Go.Proofs.YtlgnnljleooenaaDoor
