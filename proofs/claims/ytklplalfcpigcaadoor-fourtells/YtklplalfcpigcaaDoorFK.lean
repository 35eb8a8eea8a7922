/- four's own reading of numbers: value, the closure of a base, cut. (Stage 10.) -/
import Derived.Test.YtklplalfcpigcaaDoorProg
import Derived.Test.YtklplalfcpigcaaDoorFN
import Derived.WalkKit
import Derived.WalkSpells
import Derived.WalkLawsBesides
import Derived.Below
namespace Go.Proofs.YtklplalfcpigcaaDoor.F
open Go.RowKit
set_option linter.unusedVariables false
def vv (c : Int) : Int := if hx c < 0 then 16 else hx c
theorem value_any (c : Int) (h0 : 0 ≤ c) (h1 : c ≤ 255) (w : World) : Calls Tryd.prog 29 #[.int .u8 c] w fun e W' => e = .returned (.int .u64 (vv c)) ∧ W' = w := by
  by_cases a1 : 48 ≤ c ∧ c ≤ 57
  · obtain ⟨x1, x2⟩ := a1
    have hv : vv c = c - 48 := by unfold vv hx; (repeat' split) <;> omega
    rw [hv]; clear hv
    go_enter Tryd.func29, Tryd.ntmps29
    go_wp2
    go_ret
    exact ⟨ret_int (by omega), rfl⟩
  by_cases a2 : 97 ≤ c ∧ c ≤ 102
  · obtain ⟨x1, x2⟩ := a2
    have hv : vv c = c - 87 := by unfold vv hx; (repeat' split) <;> omega
    rw [hv]; clear hv
    go_enter Tryd.func29, Tryd.ntmps29
    go_wp2
    go_ret
    exact ⟨ret_int (by omega), rfl⟩
  by_cases a3 : 65 ≤ c ∧ c ≤ 70
  · obtain ⟨x1, x2⟩ := a3
    have hv : vv c = c - 55 := by unfold vv hx; (repeat' split) <;> omega
    rw [hv]; clear hv
    go_enter Tryd.func29, Tryd.ntmps29
    go_wp2
    go_ret
    exact ⟨ret_int (by omega), rfl⟩
  have hm : vv c = 16 := by unfold vv hx; (repeat' split) <;> omega
  rw [hm]
  go_enter Tryd.func29, Tryd.ntmps29
  go_wp2
  all_goals first
    | (go_ret; exact ⟨rfl, rfl⟩)
    | (exfalso; omega)
    | (go_ret; exact ⟨ret_int (by omega), rfl⟩)
theorem vv_bd (c : Int) : 0 ≤ vv c ∧ vv c ≤ 16 := by have := hx_bd c; unfold vv; split <;> omega
def readF (B : Nat) : Value := .func (.func 28) #[] #[.pointer (some ⟨B, 0, none⟩)]
theorem box_new (w : World) (t : TypeId) (v : Value) : (w.alloc (.cells #[v] t)).cell? ⟨w.heap.size, 0, none⟩ = some v := by
  have hb : (w.alloc (.cells #[v] t)).heap[w.heap.size]? = some (.cells #[v] t) := heap_alloc_new w _
  generalize w.alloc (.cells #[v] t) = W at hb ⊢
  simp [World.cell?, hb]
theorem reader_any (b : Int) (w : World) : Calls Tryd.prog 18 #[.int .u64 b] w fun e W' => e = .returned (readF w.heap.size) ∧ W'.cell? ⟨w.heap.size, 0, none⟩ = some (.int .u64 b) ∧ Below w.heap.size w W' := by
  go_enter Tryd.func18, Tryd.ntmps18
  go_wp2
  go_ret
  exact ⟨rfl, box_new w _ _, (Below.refl _ w).alloc (Nat.le_refl _) _⟩
set_option maxRecDepth 100000 in
set_option maxHeartbeats 1000000 in
/-- A digit that is none of the base. -/
theorem read_bad (b n : Nat) (c : Int) (B : Nat) (w : World) (h0 : 0 ≤ c) (h1 : c ≤ 255) (hb : b ≤ 16) (hg : good b c = false) (hc : w.cell? ⟨B, 0, none⟩ = some (.int .u64 b)) :
    Calls Tryd.prog 28 #[.int .u64 n, .int .u8 c, .pointer (some ⟨B, 0, none⟩)] w fun e W' => e = .returned (.tuple #[.int .u64 0, .bool false]) ∧ W' = w := by
  have hv : ((b : Int) ≤ vv c) := by
    have := of_decide_eq_false hg
    have q := hx_bd c
    unfold vv; split <;> omega
  have HV := hid (value_any c h0 h1)
  obtain ⟨y, hy⟩ : ∃ y, vv c = y := ⟨_, rfl⟩
  rw [hy] at hv HV
  clear hg hy
  go_enter Tryd.func28, Tryd.ntmps28
  go_wp2_with (go_at_call 29; refine (HV.out _).mono ?_; rintro e w2 ⟨rfl, hw2⟩; obtain rfl := hw2.symm)
  go_ret2
  exact ⟨rfl, rfl⟩
set_option maxRecDepth 100000 in
set_option maxHeartbeats 1000000 in
/-- A digit of the base. -/
theorem read_good (b n : Nat) (c : Int) (B : Nat) (w : World) (h0 : 0 ≤ c) (h1 : c ≤ 255) (hb : b ≤ 16) (hn : n ≤ 4294967296) (hg : good b c = true) (hc : w.cell? ⟨B, 0, none⟩ = some (.int .u64 b)) :
    Calls Tryd.prog 28 #[.int .u64 n, .int .u8 c, .pointer (some ⟨B, 0, none⟩)] w fun e W' => e = .returned (.tuple #[.int .u64 ((min (n * b + (hx c).toNat) 4294967296 : Nat) : Int), .bool true]) ∧ W' = w := by
  have hgd := of_decide_eq_true hg
  obtain ⟨x, hx'⟩ : ∃ x : Nat, hx c = (x : Int) := ⟨(hx c).toNat, by omega⟩
  have hv : vv c = x := by unfold vv; rw [if_neg (by omega), hx']
  have HV := hid (value_any c h0 h1)
  rw [hv] at HV
  rw [hx'] at hgd ⊢
  have hxb : ¬ ((b : Int) ≤ (x : Int)) := by omega
  have hm : n * b ≤ 4294967296 * 16 := Nat.mul_le_mul hn hb
  obtain ⟨m, hm'⟩ : ∃ m, n * b = m := ⟨_, rfl⟩
  have hmz : (n : Int) * (b : Int) = (m : Int) := by rw [← hm']; simp
  rw [hm'] at hm ⊢
  clear hg hx' hv hgd hm'
  go_enter Tryd.func28, Tryd.ntmps28
  go_wp2_with (go_at_call 29; refine (HV.out _).mono ?_; rintro e w2 ⟨rfl, hw2⟩; obtain rfl := hw2.symm)
  all_goals
    go_ret2
    refine ⟨?_, rfl⟩
    rw [show ((min (m + x) 4294967296 : Nat) : Int) = _ from by first | exact (show _ = (4294967296 : Int) by omega) | exact (show _ = (m : Int) + (x : Int) by omega)]
    rfl
theorem lit2 (a b : UInt8) : (⟨#[a, b]⟩ : ByteArray).toList = [a, b] := by rw [ByteArray.toList_eq]
theorem two_eq (s : ByteArray) (h2 : 2 ≤ s.size) (a b : UInt8) : ((s.extract 0 2).toList == [a, b]) = decide ((bn s)[0]?.getD 0 = (a.toNat : Int) ∧ (bn s)[1]?.getD 0 = (b.toNat : Int)) := by
  rw [← lit2, str_eq]
  have e : bn (s.extract 0 2) = (bn s).take 2 := by
    unfold bn
    rw [ByteArray.data_extract, Array.toList_extract, List.extract_eq_take_drop, List.map_take, List.map_drop]; rfl
  rw [e]
  have hl := bn_length s
  generalize bn s = l at *
  match l, hl with
  | [], hl => simp at hl; omega
  | [x], hl => simp at hl; omega
  | x :: y :: r, hl =>
    apply decide_eq_decide.2
    simp [bn]
theorem isX_eq (s : ByteArray) (h2 : 2 ≤ s.size) : isX (bn s) = ((s.extract 0 2).toList == [48, 120] || (s.extract 0 2).toList == [48, 88]) := by
  rw [two_eq s h2, two_eq s h2, ← Bool.decide_or]
  unfold isX
  rw [bn_length]
  apply decide_eq_decide.2
  constructor
  · rintro ⟨_, h1, h3 | h3⟩
    · exact .inl ⟨h1, h3⟩
    · exact .inr ⟨h1, h3⟩
  · rintro (⟨h1, h3⟩ | ⟨h1, h3⟩)
    · exact ⟨h2, h1, .inl h3⟩
    · exact ⟨h2, h1, .inr h3⟩
set_option maxRecDepth 100000 in
set_option maxHeartbeats 1000000 in
theorem sixteen_any (s : ByteArray) (w : World) (hs : s.size ≤ 100000) : Calls Tryd.prog 24 #[.string s] w fun e W' => e = .returned (.bool (isX (bn s))) ∧ W' = w := by
  by_cases h2 : 2 ≤ s.size
  · have h2z : (2 : Int) ≤ (s.size : Int) := by omega
    rw [isX_eq s h2]
    by_cases q1 : (s.extract 0 2).toList = [48, 120]
    · go_enter Tryd.func24, Tryd.ntmps24
      go_wp2
      go_ret
      refine ⟨?_, rfl⟩
      rw [q1]; rfl
    · go_enter Tryd.func24, Tryd.ntmps24
      go_wp2
      go_ret
      exact ⟨rfl, rfl⟩
  · have h2z : ¬ (2 : Int) ≤ (s.size : Int) := by omega
    have hX : isX (bn s) = false := by unfold isX; exact decide_eq_false (fun h => h2 (by have := h.1; rw [bn_length] at this; exact this))
    rw [hX]
    clear hX
    go_enter Tryd.func24, Tryd.ntmps24
    go_wp2
    go_ret
    exact ⟨rfl, rfl⟩
set_option maxRecDepth 100000 in
set_option maxHeartbeats 1000000 in
theorem cut_any (s : ByteArray) (w : World) (hs : s.size ≤ 100000) (h0 : 0 < s.size) : Calls Tryd.prog 17 #[.string s] w fun e W' => e = .returned (.tuple #[.string (tail s), .int .u64 (base (bn s) : Nat)]) ∧ W' = w := by
  have HX := hid (fun W => sixteen_any s W hs)
  have HT : Hid (tail s = if isX (bn s) = true then s.extract 2 s.size else if isO (bn s) = true then s.extract 1 s.size else s) := rfl
  have HB : Hid (base (bn s) = if isX (bn s) = true then 16 else if isO (bn s) = true then 8 else 10) := rfl
  have h2X : Hid (isX (bn s) = true → 2 ≤ s.size) := fun h => by have := (of_decide_eq_true h).1; rw [bn_length] at this; exact this
  have hO : Hid (isO (bn s) = decide (2 ≤ s.size ∧ (bn s)[0]?.getD 0 = 48)) := by show _ = _; unfold isO; rw [bn_length]
  have hg := (bn_get s 0 h0).symm
  obtain ⟨y, hy⟩ : ∃ y, (bn s)[0]?.getD 0 = y := ⟨_, rfl⟩
  rw [hy] at hg hO
  clear hy
  cases hX : isX (bn s) with
  | true =>
    rw [hX] at HX HT HB
    rw [HT.out, HB.out]
    have h2 := h2X.out hX
    clear HT HB hO h2X hX hg
    go_enter Tryd.func17, Tryd.ntmps17
    go_wp2_with (go_at_call 24; refine (HX.out _).mono ?_; rintro e w2 ⟨rfl, hw2⟩; obtain rfl := hw2.symm)
    go_ret2
    exact ⟨rfl, rfl⟩
  | false =>
    rw [hX] at HX HT HB
    rw [HT.out, HB.out]
    clear HT HB h2X hX
    by_cases h2 : 2 ≤ s.size
    · have h2z : (1 : Int) < (s.size : Int) := by omega
      by_cases h48 : y = 48
      · have hb : (y == 48) = true := by simpa using h48
        have hO' : isO (bn s) = true := by rw [hO.out]; exact decide_eq_true ⟨h2, h48⟩
        rw [hO']
        clear hO hO' h48
        go_enter Tryd.func17, Tryd.ntmps17
        go_wp2_with (go_at_call 24; refine (HX.out _).mono ?_; rintro e w2 ⟨rfl, hw2⟩; obtain rfl := hw2.symm)
        go_ret2
        exact ⟨rfl, rfl⟩
      · have hb : (y == 48) = false := by simpa using h48
        have hO' : isO (bn s) = false := by rw [hO.out]; exact decide_eq_false (fun h => h48 h.2)
        rw [hO']
        clear hO hO' h48
        go_enter Tryd.func17, Tryd.ntmps17
        go_wp2_with (go_at_call 24; refine (HX.out _).mono ?_; rintro e w2 ⟨rfl, hw2⟩; obtain rfl := hw2.symm)
        go_ret2
        exact ⟨rfl, rfl⟩
    · have h2z : ¬ (1 : Int) < (s.size : Int) := by omega
      have hO' : isO (bn s) = false := by rw [hO.out]; exact decide_eq_false (fun h => h2 h.1)
      rw [hO']
      clear hO hO'
      go_enter Tryd.func17, Tryd.ntmps17
      go_wp2_with (go_at_call 24; refine (HX.out _).mono ?_; rintro e w2 ⟨rfl, hw2⟩; obtain rfl := hw2.symm)
      go_ret2
      exact ⟨rfl, rfl⟩
end Go.Proofs.YtklplalfcpigcaaDoor.F
