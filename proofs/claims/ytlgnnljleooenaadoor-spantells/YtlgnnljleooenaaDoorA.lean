/- The contracts of Check and Has, of the program and of the document's answer. -/
import Derived.Test.YtlgnnljleooenaaDoorM
namespace Go.Proofs.YtlgnnljleooenaaDoor
open Go.RowKit
set_option linter.unusedVariables false

theorem ok1_false_of (s : Sp) (h : ok1 s = false) : s.1 < 0 ∨ s.2 < s.1 ∨ 1114111 < s.2 := by
  unfold ok1 at h; rw [decide_eq_false_iff_not] at h; omega
theorem ok1_true_of (s : Sp) (h : ok1 s = true) : 0 ≤ s.1 ∧ s.1 ≤ s.2 ∧ s.2 ≤ 1114111 := by
  unfold ok1 at h; rwa [decide_eq_true_eq] at h
theorem all_take_succ {α : Type} (p : α → Bool) (d : α) (l : List α) (k : Nat) (h : k < l.length) (ha : (l.take k).all p = true) (hp : p (l[k]?.getD d) = true) : (l.take (k + 1)).all p = true := by
  rw [take_snoc l d k h, List.all_append, ha]; simp [hp]
theorem all_false_at {α : Type} (p : α → Bool) (d : α) (l : List α) (k : Nat) (h : k < l.length) (hp : p (l[k]?.getD d) = false) : l.all p = false := by
  rw [← List.take_append_drop (k + 1) l, take_snoc l d k h, List.all_append, List.all_append]
  simp [hp]
theorem chk_long (l : List Sp) (h : 1024 < l.length) : chk l = 4 := by unfold chk; rw [if_pos h]
theorem chk_ok (l : List Sp) (h : ¬ 1024 < l.length) (g : l.all ok1 = true) : chk l = 0 := by unfold chk; rw [if_neg h, if_pos g]
theorem chk_arg (l : List Sp) (h : ¬ 1024 < l.length) (g : l.all ok1 = false) : chk l = 2 := by unfold chk; rw [if_neg h, if_neg (by simp [g])]

/-- The cells of element k, under letters. -/
theorem SpansAt.elem {w wr : World} {b off cap : Nat} {l : List Sp} {k : Nat} (hlt : k < l.length) (hB : Below w.heap.size w wr)
    (hc : ∀ j, j < l.length → w.cell? ⟨b, off + j * 2, none⟩ = some (.int .i32 (l[j]?.getD (0, 0)).1) ∧ w.cell? ⟨b, off + j * 2 + 1, none⟩ = some (.int .i32 (l[j]?.getD (0, 0)).2)) :
    ∃ x y, Hid (l[k]?.getD (0, 0) = (x, y)) ∧ wr.cell? ⟨b, off + k * 2, none⟩ = some (.int .i32 x) ∧ wr.cell? ⟨b, off + k * 2 + 1, none⟩ = some (.int .i32 y) ∧ b < w.heap.size := by
  have hck := hc k hlt
  have hb := lt_of_cell hck.1
  exact ⟨(l[k]?.getD (0, 0)).1, (l[k]?.getD (0, 0)).2, Prod.ext rfl rfl, (hB.cell (p := ⟨b, off + k * 2, none⟩) hb).trans hck.1, (hB.cell (p := ⟨b, off + k * 2 + 1, none⟩) hb).trans hck.2, hb⟩

set_option maxRecDepth 100000 in
set_option maxHeartbeats 1000000 in
theorem check_any (v : Value) (l : List Sp) (hlen : l.length ≤ 140737488355328) (w : World) (hv : SpansAt w v l) :
    Calls Tryd.prog 20 #[v] w fun e W' => e = .returned (.int .i64 (chk l)) ∧ Below w.heap.size w W' := by
  obtain ⟨a, cap, rfl, -, hs⟩ := hv
  by_cases hlong : 1024 < l.length
  · have hc := chk_long l hlong
    have H : Hid (chk l = 4) := hc
    clear hc
    go_enter Tryd.func20, Tryd.ntmps20
    go_wp2
    go_ret
    exact ⟨by rw [H.out]; rfl, Below.refl _ _⟩
  · go_enter Tryd.func20, Tryd.ntmps20
    go_wp2_with fail
    go_loopw [10] (fun i wr => ∃ k : Nat, k ≤ l.length ∧ i = .int .i64 k ∧ (l.take k).all ok1 = true ∧ Below w.heap.size w wr)
      (fun i _ => l.length - (intOf i).toNat)
    case atStart => exact ⟨0, Nat.zero_le _, rfl, by simp, Below.refl _ _⟩
    case round =>
      obtain ⟨k, hk, rfl, hall, hB⟩ := hrel
      have HA : Hid ((l.take k).all ok1 = true) := hall
      clear hall
      by_cases hlt : k < l.length
      · obtain ⟨b, off, rfl, hc⟩ := hs (by omega)
        obtain ⟨x, y, HX, c1, c2, hb⟩ := SpansAt.elem (cap := cap) hlt hB hc
        clear hc hs
        cases hok : ok1 (x, y) with
        | true =>
          have hx := ok1_true_of _ hok
          obtain ⟨h1, h2, h3⟩ := hx
          have HO : Hid (ok1 (x, y) = true) := hok
          clear hok
          dsimp only at h1 h2 h3
          go_wp2
          go_roundw
          case rel => exact ⟨k + 1, by omega, by go_num, all_take_succ ok1 (0, 0) l k hlt HA.out (by rw [HX.out]; exact HO.out), hB.alloc hB.size _⟩
          case measure => simp [intOf]; omega
        | false =>
          have hx := ok1_false_of _ hok
          have HO : Hid (chk l = 2) := chk_arg l hlong (all_false_at ok1 (0, 0) l k hlt (by rw [HX.out]; exact hok))
          clear hok
          dsimp only at hx
          go_wp2
          all_goals first | (exfalso; omega) | (go_ret; exact ⟨by rw [HO.out]; rfl, hB.alloc hB.size _⟩)
      · have hkk : k = l.length := by omega
        have HO : Hid (chk l = 0) := chk_ok l hlong (by have := HA.out; rwa [hkk, List.take_length] at this)
        clear hkk
        go_wp2
        go_ret
        exact ⟨by rw [HO.out]; rfl, hB⟩

theorem hasP_take_succ (r : Int) (l : List Sp) (k : Nat) (h : k < l.length) (ha : hasP (l.take k) r = false) (x y : Int) (hxy : l[k]?.getD (0, 0) = (x, y)) (hr : ¬ (x ≤ r ∧ r ≤ y)) : hasP (l.take (k + 1)) r = false := by
  unfold hasP at ha ⊢
  rw [take_snoc l (0, 0) k h, List.any_append, ha, hxy]
  simpa using hr
theorem hasP_at (r : Int) (l : List Sp) (k : Nat) (h : k < l.length) (x y : Int) (hxy : l[k]?.getD (0, 0) = (x, y)) (hr : x ≤ r ∧ r ≤ y) : hasP l r = true := by
  unfold hasP
  rw [← List.take_append_drop (k + 1) l, take_snoc l (0, 0) k h, List.any_append, List.any_append, hxy]
  simp [hr.1, hr.2]

/-- What Has answers. -/
def hasA (l : List Sp) (r : Int) : Bool := decide (chk l = 0) && hasP l r

set_option maxRecDepth 100000 in
set_option maxHeartbeats 1000000 in
theorem has_any (v : Value) (l : List Sp) (r : Int) (hlen : l.length ≤ 140737488355328) (w : World) (hv : SpansAt w v l) :
    Calls Tryd.prog 21 #[v, .int .i32 r] w fun e W' => e = .returned (.bool (hasA l r)) ∧ Below w.heap.size w W' := by
  have hv0 := hv
  obtain ⟨a, cap, rfl, -, hs⟩ := hv
  by_cases hok : chk l = 0
  · have HK : Hid (chk l = 0) := hok
    clear hok
    go_enter Tryd.func21, Tryd.ntmps21
    go_wp2_with fail
    refine (check_any _ l hlen _ hv0).mono ?_
    rw [HK.out]
    rintro e w1 ⟨rfl, hB1⟩
    go_wp2_with fail
    go_loopw [12] (fun i wr => ∃ k : Nat, k ≤ l.length ∧ i = .int .i64 k ∧ hasP (l.take k) r = false ∧ Below w.heap.size w wr)
      (fun i _ => l.length - (intOf i).toNat)
    case atStart => exact ⟨0, Nat.zero_le _, rfl, by simp [hasP], hB1⟩
    case round =>
      obtain ⟨k, hk, rfl, hall, hB⟩ := hrel
      have HA : Hid (hasP (l.take k) r = false) := hall
      clear hall hv0
      by_cases hlt : k < l.length
      · obtain ⟨b, off, rfl, hc⟩ := hs (by omega)
        obtain ⟨x, y, HX, c1, c2, hb⟩ := SpansAt.elem (cap := cap) hlt hB hc
        clear hc hs
        by_cases hr : x ≤ r ∧ r ≤ y
        · have HO : Hid (hasA l r = true) := by
            show hasA l r = true
            unfold hasA; rw [hasP_at r l k hlt x y HX.out hr, HK.out]; rfl
          obtain ⟨h1, h2⟩ := hr
          go_wp2
          go_ret
          exact ⟨by rw [HO.out]; rfl, hB.alloc hB.size _⟩
        · have HR : Hid (¬ (x ≤ r ∧ r ≤ y)) := hr
          by_cases h1 : x ≤ r
          · have h2 : y < r := by omega
            clear hr
            go_wp2
            go_roundw
            case rel => exact ⟨k + 1, by omega, by go_num, hasP_take_succ r l k hlt HA.out x y HX.out HR.out, hB.alloc hB.size _⟩
            case measure => simp [intOf]; omega
          · have h2 : r < x := by omega
            clear hr h1
            go_wp2
            go_roundw
            case rel => exact ⟨k + 1, by omega, by go_num, hasP_take_succ r l k hlt HA.out x y HX.out HR.out, hB.alloc hB.size _⟩
            case measure => simp [intOf]; omega
      · have hkk : k = l.length := by omega
        have HO : Hid (hasA l r = false) := by
          show hasA l r = false
          have := HA.out; rw [hkk, List.take_length] at this
          unfold hasA; rw [this]; simp
        clear hkk
        go_wp2
        go_ret
        exact ⟨by rw [HO.out]; rfl, hB⟩
  · have HO : Hid (hasA l r = false) := by
      show hasA l r = false
      unfold hasA; simp [hok]
    go_enter Tryd.func21, Tryd.ntmps21
    go_wp2_with fail
    refine (check_any _ l hlen _ hv0).mono ?_
    rintro e w1 ⟨rfl, hB1⟩
    go_wp2
    go_ret
    exact ⟨by rw [HO.out]; rfl, hB1⟩
end Go.Proofs.YtlgnnljleooenaaDoor
