/- The contracts of digit, readNumber, readSpan and Parse: which spans a text tells, and where it can't go on. -/
import Derived.Test.YtlgnnljleooenaaDoorC
namespace Go.Proofs.YtlgnnljleooenaaDoor
open Go.RowKit
set_option linter.unusedVariables false

/-- The bytes of a string, as numbers. -/
def bn (s : ByteArray) : List Int := s.data.toList.map fun c => (c.toNat : Int)
theorem bn_length (s : ByteArray) : (bn s).length = s.size := by simp [bn]
theorem bn_drop (s : ByteArray) (k : Nat) (h : k < s.size) : (bn s).drop k = (s[k].toNat : Int) :: (bn s).drop (k + 1) := by
  have h' : k < (bn s).length := by rw [bn_length]; exact h
  rw [List.drop_eq_getElem_cons h']
  congr 1
  simp [bn]; rfl
theorem bn_drop_nil (s : ByteArray) (k : Nat) (h : s.size ≤ k) : (bn s).drop k = [] := by
  rw [List.drop_eq_nil_iff, bn_length]; exact h
theorem isEmpty_false (s : ByteArray) (h : 0 < s.size) : s.toList.isEmpty = false := by
  rw [ByteArray.toList_eq, ← Bool.not_eq_true, List.isEmpty_iff]; intro hh; have h2 := congrArg List.length hh; rw [Array.length_toList] at h2; have h3 : s.data.size = s.size := rfl; simp only [List.length_nil] at h2; omega
theorem isEmpty_true (s : ByteArray) (h : s.size = 0) : s.toList.isEmpty = true := by
  rw [ByteArray.toList_eq, List.isEmpty_iff]; exact List.length_eq_zero_iff.1 (by simpa using h)

/-- A digit of sixteen. -/
def dig (c : Int) : Option Int := if 48 ≤ c ∧ c ≤ 57 then some (c - 48) else if 97 ≤ c ∧ c ≤ 102 then some (c - 87) else none
/-- f digits may still come, k have come, n is what they tell. -/
def numl : Nat → List Int → Nat → Int → Int × Nat
  | 0, _, k, n => (n, k)
  | _ + 1, [], k, n => (n, k)
  | f + 1, c :: t, k, n => match dig c with
    | none => (n, k)
    | some d => if 0 < k ∧ n = 0 then (n, k) else numl f t (k + 1) (n * 16 + d)
/-- A number no less than least. -/
def rdN (l : List Int) (least : Int) : Option (Int × Nat) :=
  if (numl 6 l 0 0).2 = 0 ∨ (numl 6 l 0 0).1 < least ∨ 1114111 < (numl 6 l 0 0).1 then none else some (numl 6 l 0 0)
/-- A span no less than least: the span, how far, whether it is one. -/
def rdS (l : List Int) (least : Int) : Sp × Nat × Bool :=
  match rdN l least with
  | none => ((0, 0), 0, false)
  | some (lo, k) => match l.drop k with
    | [] => ((lo, lo), k, true)
    | c :: t => if c = 45 then match rdN t (lo + 1) with
        | none => ((lo, 0), k + 1, false)
        | some (hi, k2) => ((lo, hi), k + 1 + k2, true)
      else ((lo, lo), k, true)
/-- Spans with commas between. -/
def prs : Nat → List Int → Nat → Int → List Sp → List Sp × Nat × Int
  | 0, _, _, _, _ => ([], 0, 0)
  | f + 1, l, k, least, acc =>
    if (rdS l least).2.2 = false then ([], k + (rdS l least).2.1, 8)
    else match l.drop (rdS l least).2.1 with
      | [] => (acc ++ [(rdS l least).1], 0, 0)
      | c :: t => if c ≠ 44 ∨ acc.length + 1 = 1024 then ([], k + (rdS l least).2.1, 8)
        else prs f t (k + (rdS l least).2.1 + 1) ((rdS l least).1.2 + 2) (acc ++ [(rdS l least).1])
def parse (l : List Int) : List Sp × Nat × Int := if l.length = 0 then ([], 0, 0) else prs (l.length + 1) l 0 0 []

theorem dig_cases (c : Int) : (dig c = some (c - 48) ∧ 48 ≤ c ∧ c ≤ 57) ∨ (dig c = some (c - 87) ∧ 97 ≤ c ∧ c ≤ 102) ∨ (dig c = none ∧ ¬ (48 ≤ c ∧ c ≤ 57) ∧ ¬ (97 ≤ c ∧ c ≤ 102)) := by
  unfold dig
  by_cases h1 : 48 ≤ c ∧ c ≤ 57
  · left; rw [if_pos h1]; exact ⟨rfl, h1.1, h1.2⟩
  · right
    rw [if_neg h1]
    by_cases h2 : 97 ≤ c ∧ c ≤ 102
    · left; rw [if_pos h2]; exact ⟨rfl, h2.1, h2.2⟩
    · right; rw [if_neg h2]; exact ⟨rfl, h1, h2⟩

set_option maxRecDepth 100000 in
set_option maxHeartbeats 1000000 in
theorem digit_any (c : Int) (h0 : 0 ≤ c) (h1 : c ≤ 255) (w : World) :
    Calls Tryd.prog 55 #[.int .u8 c] w fun e W' => e = .returned (.tuple #[.int .i32 ((dig c).getD 0), .bool (dig c).isSome]) ∧ W' = w := by
  rcases dig_cases c with ⟨hd, h2, h3⟩ | ⟨hd, h2, h3⟩ | ⟨hd, h2, h3⟩
  · have H : Hid (dig c = some (c - 48)) := hd
    clear hd
    go_enter Tryd.func55, Tryd.ntmps55
    go_wp2
    go_ret2
    exact ⟨by rw [H.out]; simp, rfl⟩
  · have H : Hid (dig c = some (c - 87)) := hd
    have h4 : ¬ c ≤ 57 := by omega
    clear hd
    go_enter Tryd.func55, Tryd.ntmps55
    go_wp2
    go_ret2
    refine ⟨?_, rfl⟩
    rw [H.out]
    simp
    omega
  · have H : Hid (dig c = none) := hd
    clear hd
    go_enter Tryd.func55, Tryd.ntmps55
    go_wp2
    all_goals first | (exfalso; omega) | (go_ret2; exact ⟨by rw [H.out]; rfl, rfl⟩)

def rB (l : List Int) (least : Int) : Bool := (rdN l least).isSome
def rN (l : List Int) (least : Int) : Int := ((rdN l least).getD (0, 0)).1
def rK (l : List Int) (least : Int) : Nat := ((rdN l least).getD (0, 0)).2
theorem rd_bad {l : List Int} {least n : Int} {k : Nat} (h : numl 6 l 0 0 = (n, k)) (hb : k = 0 ∨ n < least ∨ 1114111 < n) : rN l least = 0 ∧ rK l least = 0 ∧ rB l least = false := by
  have : rdN l least = none := by unfold rdN; rw [h, if_pos hb]
  unfold rN rK rB; rw [this]; exact ⟨rfl, rfl, rfl⟩
theorem rd_good {l : List Int} {least n : Int} {k : Nat} (h : numl 6 l 0 0 = (n, k)) (hb : ¬ (k = 0 ∨ n < least ∨ 1114111 < n)) : rN l least = n ∧ rK l least = k ∧ rB l least = true := by
  have : rdN l least = some (n, k) := by unfold rdN; rw [h, if_neg hb]
  unfold rN rK rB; rw [this]; exact ⟨rfl, rfl, rfl⟩
def sz16 (j : Nat) (n : Int) : Prop := (j = 0 ∧ n = 0) ∨ (j = 1 ∧ n < 16) ∨ (j = 2 ∧ n < 256) ∨ (j = 3 ∧ n < 4096) ∨ (j = 4 ∧ n < 65536) ∨ (j = 5 ∧ n < 1048576) ∨ (j = 6 ∧ n < 16777216)
theorem sz16_step {j : Nat} {n d : Int} (h : sz16 j n) (hj : j < 6) (h0 : 0 ≤ n) (hd : d ≤ 15) : sz16 (j + 1) (n * 16 + d) ∧ n < 1048576 := by
  rcases h with ⟨rfl, h⟩ | ⟨rfl, h⟩ | ⟨rfl, h⟩ | ⟨rfl, h⟩ | ⟨rfl, h⟩ | ⟨rfl, h⟩ | ⟨rfl, h⟩
  · exact ⟨.inr (.inl ⟨rfl, by omega⟩), by omega⟩
  · exact ⟨.inr (.inr (.inl ⟨rfl, by omega⟩)), by omega⟩
  · exact ⟨.inr (.inr (.inr (.inl ⟨rfl, by omega⟩))), by omega⟩
  · exact ⟨.inr (.inr (.inr (.inr (.inl ⟨rfl, by omega⟩)))), by omega⟩
  · exact ⟨.inr (.inr (.inr (.inr (.inr (.inl ⟨rfl, by omega⟩))))), by omega⟩
  · exact ⟨.inr (.inr (.inr (.inr (.inr (.inr ⟨rfl, by omega⟩))))), by omega⟩
  · omega
theorem sz16_lt {j : Nat} {n : Int} (h : sz16 j n) : n < 16777216 ∧ j ≤ 6 := by unfold sz16 at h; omega
theorem dig_bd (c : Int) : 0 ≤ (dig c).getD 0 ∧ (dig c).getD 0 ≤ 15 := by
  rcases dig_cases c with ⟨hd, h2, h3⟩ | ⟨hd, h2, h3⟩ | ⟨hd, h2, h3⟩ <;> rw [hd] <;> simp <;> omega
theorem numl_end (s : ByteArray) (f p j : Nat) (n : Int) (h : s.size ≤ p) : numl f ((bn s).drop p) j n = (n, j) := by
  rw [bn_drop_nil s p h]; cases f <;> rfl
theorem numl_no (s : ByteArray) (f p j : Nat) (n : Int) (h : p < s.size) (hd : (dig (s[p].toNat : Int)).isSome = false) : numl f ((bn s).drop p) j n = (n, j) := by
  cases f with
  | zero => rfl
  | succ f =>
    rw [bn_drop s p h, numl]
    have : dig (s[p].toNat : Int) = none := by simpa using hd
    rw [this]
theorem numl_nought (s : ByteArray) (f p j : Nat) (n : Int) (h : p < s.size) (hj : 0 < j) (hn : n = 0) : numl f ((bn s).drop p) j n = (n, j) := by
  cases f with
  | zero => rfl
  | succ f =>
    rw [bn_drop s p h, numl]
    cases hd : dig (s[p].toNat : Int) with
    | none => rfl
    | some d => exact if_pos ⟨hj, hn⟩
theorem numl_go (s : ByteArray) (f p j : Nat) (n : Int) (h : p < s.size) (hd : (dig (s[p].toNat : Int)).isSome = true) (hn : ¬ (0 < j ∧ n = 0)) :
    numl (f + 1) ((bn s).drop p) j n = numl f ((bn s).drop (p + 1)) (j + 1) (n * 16 + (dig (s[p].toNat : Int)).getD 0) := by
  rw [bn_drop s p h, numl]
  cases hd' : dig (s[p].toNat : Int) with
  | none => rw [hd'] at hd; cases hd
  | some d => exact if_neg hn

theorem fin_bad {l : List Int} {least n : Int} {st p j : Nat} (hp : p = st + j) (h : numl 6 l 0 0 = (n, j)) :
    ((p = st ∨ n < least ∨ 1114111 < n) → rN l least = 0 ∧ st + rK l least = st ∧ rB l least = false) ∧ (¬ (p = st ∨ n < least ∨ 1114111 < n) → rN l least = n ∧ st + rK l least = p ∧ rB l least = true) := by
  refine ⟨fun hb => ?_, fun hb => ?_⟩
  · have := rd_bad h (by omega : j = 0 ∨ n < least ∨ 1114111 < n)
    exact ⟨this.1, by rw [this.2.1]; rfl, this.2.2⟩
  · have := rd_good h (by omega : ¬ (j = 0 ∨ n < least ∨ 1114111 < n))
    exact ⟨this.1, by rw [this.2.1]; exact hp.symm, this.2.2⟩

set_option maxRecDepth 100000 in
set_option maxHeartbeats 1600000 in
theorem number_walk (s : ByteArray) (st : Nat) (least : Int) (hs : s.size ≤ 1099511627776) (hst : st ≤ s.size) (FN : Int) (FK : Nat) (FB : Bool)
    (fin : ∀ (n : Int) (p j : Nat), p = st + j → numl 6 ((bn s).drop st) 0 0 = (n, j) → ((p = st ∨ n < least ∨ 1114111 < n) → FN = 0 ∧ FK = st ∧ FB = false) ∧ (¬ (p = st ∨ n < least ∨ 1114111 < n) → FN = n ∧ FK = p ∧ FB = true)) (w : World) :
    Calls Tryd.prog 46 #[.string s, .int .i64 st, .int .i32 least] w fun e W' => e = .returned (.tuple #[.int .i32 FN, .int .i64 (FK : Int), .bool FB]) ∧ W' = w := by
  have FIN := hid' fin
  clear fin
  go_enter Tryd.func46, Tryd.ntmps46
  go_wp2_with fail
  go_loop [6, 7] (fun n e => ∃ (p j f : Nat) (N : Int), n = .int .i32 N ∧ e = .int .i64 p ∧ p = st + j ∧ p ≤ s.size ∧ sz16 j N ∧ 0 ≤ N ∧ f + j = 6 ∧ Hid (numl f ((bn s).drop p) j N = numl 6 ((bn s).drop st) 0 0)) (fun _ e => s.size - (intOf e).toNat)
  case atStart => exact ⟨st, 0, 6, 0, rfl, rfl, rfl, hst, .inl ⟨rfl, rfl⟩, by omega, rfl, rfl⟩
  case round =>
    obtain ⟨p, j, f, N, rfl, rfl, hp, hps, hsz, hN0, hfj, HR⟩ := hrel
    have hN1 := sz16_lt hsz
    have HP := hid' hp
    have hpge : st ≤ p := by omega
    clear hp
    by_cases hlt : p < s.size
    · have hpi : (p : Int) < (s.size : Int) := by omega
      by_cases h6 : j < 6
      · obtain ⟨f', rfl⟩ : ∃ f', f = f' + 1 := ⟨f - 1, by omega⟩
        have hbt : 0 ≤ (s[p].toNat : Int) ∧ (s[p].toNat : Int) ≤ 255 := by have := s[p].toNat_lt; omega
        have hp6 : (p : Int) < (st : Int) + 6 := by have := HP.out; omega
        go_wp2_with fail
        refine (digit_any _ hbt.1 hbt.2 _).mono ?_
        rintro e w1 ⟨rfl, rfl⟩
        have hdb := dig_bd (s[p].toNat : Int)
        have HS : Hid (∀ b, (dig (s[p].toNat : Int)).isSome = b → (dig (s[p].toNat : Int)).isSome = b) := fun _ h => h
        obtain ⟨D, hD⟩ : ∃ D, D = (dig (s[p].toNat : Int)).getD 0 := ⟨_, rfl⟩
        rw [← hD] at hdb ⊢
        have HD := hid' hD
        clear hD hbt
        cases hsome : (dig (s[p].toNat : Int)).isSome with
        | true =>
          have HSM := hid' hsome
          clear hsome HS
          by_cases hno : 0 < j ∧ N = 0
          · have HE : Hid (numl 6 ((bn s).drop st) 0 0 = (N, j)) := by
              show _ = _
              rw [← HR.out, numl_nought s _ p j N hlt hno.1 hno.2]
            obtain ⟨hno1, rfl⟩ := hno
            have hpst : (st : Int) < (p : Int) := by have := HP.out; omega
            have HF := hid' (FIN.out _ p j HP.out HE.out)
            clear FIN HE HR hsz hN1 hfj hdb HD HSM
            by_cases c1 : p = st
            · have HG := hid' (HF.out.1 (.inl c1))
              have c1' : (p : Int) = (st : Int) := by omega
              clear HF HP c1
              first
                | (exfalso; omega)
                | (go_wp2; all_goals first | (exfalso; omega) | (go_ret3; exact ⟨by rw [HG.out.1, HG.out.2.1, HG.out.2.2]; rfl, rfl⟩))
            have c1' : ¬ ((p : Int) = (st : Int)) := by omega
            have c1b : ((p : Int) == (st : Int)) = false := by simpa using c1'
            by_cases c2 : (0 : Int) < least
            · have HG := hid' (HF.out.1 (.inr (.inl c2)))
              clear HF HP c1
              first
                | (exfalso; omega)
                | (go_wp2; all_goals first | (exfalso; omega) | (go_ret3; exact ⟨by rw [HG.out.1, HG.out.2.1, HG.out.2.2]; rfl, rfl⟩))
            by_cases c3 : 1114111 < (0 : Int)
            · have HG := hid' (HF.out.1 (.inr (.inr c3)))
              clear HF HP c1
              first
                | (exfalso; omega)
                | (go_wp2; all_goals first | (exfalso; omega) | (go_ret3; exact ⟨by rw [HG.out.1, HG.out.2.1, HG.out.2.2]; rfl, rfl⟩))
            · have HG := hid' (HF.out.2 (by omega))
              clear HF HP c1
              first
                | (exfalso; omega)
                | (go_wp2; all_goals first | (exfalso; omega) | (go_ret3; exact ⟨by rw [HG.out.1, HG.out.2.1, HG.out.2.2]; rfl, rfl⟩))
          · have HS2 := sz16_step hsz h6 hN0 hdb.2
            have HR2 : Hid (numl f' ((bn s).drop (p + 1)) (j + 1) (N * 16 + D) = numl 6 ((bn s).drop st) 0 0) := by
              show _ = _
              rw [← HR.out, numl_go s f' p j N hlt HSM.out hno, HD.out]
            have HZ := hid' HS2.1
            have hN9 := HS2.2
            clear HS2 HR HSM HD hsz hN1
            by_cases hj0 : j = 0
            · have hpst : ¬ (st : Int) < (p : Int) := by have := HP.out; omega
              go_wp2
              go_round
              case rel => exact ⟨p + 1, j + 1, f', _, rfl, by go_num, by have := HP.out; omega, by omega, HZ.out, by omega, by omega, HR2⟩
              case measure => simp [intOf]; omega
            · have hpst : (st : Int) < (p : Int) := by have := HP.out; omega
              have hN2 : ¬ N = 0 := by omega
              go_wp2
              go_round
              case rel => exact ⟨p + 1, j + 1, f', _, rfl, by go_num, by have := HP.out; omega, by omega, HZ.out, by omega, by omega, HR2⟩
              case measure => simp [intOf]; omega
        | false =>
          have HE : Hid (numl 6 ((bn s).drop st) 0 0 = (N, j)) := by
            show _ = _
            rw [← HR.out, numl_no s _ p j N hlt hsome]
          clear hsome HS
          have HF := hid' (FIN.out _ p j HP.out HE.out)
          clear FIN HE HR hsz hN1 hfj hdb HD
          by_cases c1 : p = st
          · have HG := hid' (HF.out.1 (.inl c1))
            have c1' : (p : Int) = (st : Int) := by omega
            clear HF HP c1
            first
              | (exfalso; omega)
              | (go_wp2; all_goals first | (exfalso; omega) | (go_ret3; exact ⟨by rw [HG.out.1, HG.out.2.1, HG.out.2.2]; rfl, rfl⟩))
          have c1' : ¬ ((p : Int) = (st : Int)) := by omega
          have c1b : ((p : Int) == (st : Int)) = false := by simpa using c1'
          by_cases c2 : N < least
          · have HG := hid' (HF.out.1 (.inr (.inl c2)))
            clear HF HP c1
            first
              | (exfalso; omega)
              | (go_wp2; all_goals first | (exfalso; omega) | (go_ret3; exact ⟨by rw [HG.out.1, HG.out.2.1, HG.out.2.2]; rfl, rfl⟩))
          by_cases c3 : 1114111 < N
          · have HG := hid' (HF.out.1 (.inr (.inr c3)))
            clear HF HP c1
            first
              | (exfalso; omega)
              | (go_wp2; all_goals first | (exfalso; omega) | (go_ret3; exact ⟨by rw [HG.out.1, HG.out.2.1, HG.out.2.2]; rfl, rfl⟩))
          · have HG := hid' (HF.out.2 (by omega))
            clear HF HP c1
            first
              | (exfalso; omega)
              | (go_wp2; all_goals first | (exfalso; omega) | (go_ret3; exact ⟨by rw [HG.out.1, HG.out.2.1, HG.out.2.2]; rfl, rfl⟩))
      · have HE : Hid (numl 6 ((bn s).drop st) 0 0 = (N, j)) := by
          show _ = _
          rw [← HR.out, show f = 0 by omega]; rfl
        have hp6 : ¬ (p : Int) < (st : Int) + 6 := by have := HP.out; omega
        have HF := hid' (FIN.out _ p j HP.out HE.out)
        clear FIN HE HR hsz hN1 hfj 
        by_cases c1 : p = st
        · have HG := hid' (HF.out.1 (.inl c1))
          have c1' : (p : Int) = (st : Int) := by omega
          clear HF HP c1
          first
            | (exfalso; omega)
            | (go_wp2; all_goals first | (exfalso; omega) | (go_ret3; exact ⟨by rw [HG.out.1, HG.out.2.1, HG.out.2.2]; rfl, rfl⟩))
        have c1' : ¬ ((p : Int) = (st : Int)) := by omega
        have c1b : ((p : Int) == (st : Int)) = false := by simpa using c1'
        by_cases c2 : N < least
        · have HG := hid' (HF.out.1 (.inr (.inl c2)))
          clear HF HP c1
          first
            | (exfalso; omega)
            | (go_wp2; all_goals first | (exfalso; omega) | (go_ret3; exact ⟨by rw [HG.out.1, HG.out.2.1, HG.out.2.2]; rfl, rfl⟩))
        by_cases c3 : 1114111 < N
        · have HG := hid' (HF.out.1 (.inr (.inr c3)))
          clear HF HP c1
          first
            | (exfalso; omega)
            | (go_wp2; all_goals first | (exfalso; omega) | (go_ret3; exact ⟨by rw [HG.out.1, HG.out.2.1, HG.out.2.2]; rfl, rfl⟩))
        · have HG := hid' (HF.out.2 (by omega))
          clear HF HP c1
          first
            | (exfalso; omega)
            | (go_wp2; all_goals first | (exfalso; omega) | (go_ret3; exact ⟨by rw [HG.out.1, HG.out.2.1, HG.out.2.2]; rfl, rfl⟩))
    · have HE : Hid (numl 6 ((bn s).drop st) 0 0 = (N, j)) := by
        show _ = _
        rw [← HR.out, numl_end s _ p j N (by omega)]
      have hpi : ¬ (p : Int) < (s.size : Int) := by omega
      have HF := hid' (FIN.out _ p j HP.out HE.out)
      clear FIN HE HR hsz hN1 hfj 
      by_cases c1 : p = st
      · have HG := hid' (HF.out.1 (.inl c1))
        have c1' : (p : Int) = (st : Int) := by omega
        clear HF HP c1
        first
          | (exfalso; omega)
          | (go_wp2; all_goals first | (exfalso; omega) | (go_ret3; exact ⟨by rw [HG.out.1, HG.out.2.1, HG.out.2.2]; rfl, rfl⟩))
      have c1' : ¬ ((p : Int) = (st : Int)) := by omega
      have c1b : ((p : Int) == (st : Int)) = false := by simpa using c1'
      by_cases c2 : N < least
      · have HG := hid' (HF.out.1 (.inr (.inl c2)))
        clear HF HP c1
        first
          | (exfalso; omega)
          | (go_wp2; all_goals first | (exfalso; omega) | (go_ret3; exact ⟨by rw [HG.out.1, HG.out.2.1, HG.out.2.2]; rfl, rfl⟩))
      by_cases c3 : 1114111 < N
      · have HG := hid' (HF.out.1 (.inr (.inr c3)))
        clear HF HP c1
        first
          | (exfalso; omega)
          | (go_wp2; all_goals first | (exfalso; omega) | (go_ret3; exact ⟨by rw [HG.out.1, HG.out.2.1, HG.out.2.2]; rfl, rfl⟩))
      · have HG := hid' (HF.out.2 (by omega))
        clear HF HP c1
        first
          | (exfalso; omega)
          | (go_wp2; all_goals first | (exfalso; omega) | (go_ret3; exact ⟨by rw [HG.out.1, HG.out.2.1, HG.out.2.2]; rfl, rfl⟩))

theorem number_any (s : ByteArray) (st : Nat) (least : Int) (hs : s.size ≤ 1099511627776) (hst : st ≤ s.size) (w : World) :
    Calls Tryd.prog 46 #[.string s, .int .i64 st, .int .i32 least] w fun e W' =>
      e = .returned (.tuple #[.int .i32 (rN ((bn s).drop st) least), .int .i64 ((st + rK ((bn s).drop st) least : Nat) : Int), .bool (rB ((bn s).drop st) least)]) ∧ W' = w :=
  number_walk s st least hs hst _ _ _ (fun n p j hp h => fin_bad hp h) w
end Go.Proofs.YtlgnnljleooenaaDoor
