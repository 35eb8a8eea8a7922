/- The document's Token, find. (Stage 19.) -/
import Derived.Test.YtacbfbhhhofifaaDoorHXA
import Derived.Test.YtacbfbhhhofifaaDoorFO
import Derived.Test.YtacbfbhhhofifaaDoorChecked
import Derived.Deep.CutRange
namespace Go.Proofs.YtacbfbhhhofifaaDoor.Hd
open Go.RowKit
open Go.Proofs.YtacbfbhhhofifaaDoor.F (bn bn_length bn_append bn_inj bn_get byte_bd hid bn_extract isEmpty_false isEmpty_true str_eq same_eq)
set_option linter.unusedVariables false

/-- The first place of a byte, from one on. -/
def fnd (l : List Int) (c : Int) (i : Nat) : Option Nat := ((l.drop i).findIdx? (fun d => decide (d = c))).map (· + i)
def opt : Option Nat → Int
  | none => -1
  | some k => k
theorem fnd_step {l : List Int} {c : Int} {i : Nat} (hi : i < l.length) : fnd l c i = if l[i]?.getD 0 = c then some i else fnd l c (i + 1) := by
  unfold fnd
  rw [List.drop_eq_getElem_cons hi, List.findIdx?_cons, List.getElem?_eq_getElem hi]
  simp only [Option.getD_some, decide_eq_true_eq]
  split
  · simp
  · rw [Option.map_map]
    congr 1
    funext x
    simp; omega
theorem fnd_end {l : List Int} {c : Int} {i : Nat} (hi : l.length ≤ i) : fnd l c i = none := by
  unfold fnd
  rw [List.drop_eq_nil_of_le hi]; rfl
set_option maxRecDepth 100000 in
set_option maxHeartbeats 4000000 in
theorem rfind_any (s : ByteArray) (hs : s.size ≤ 1000000) (c : Int) (n : Nat) (hn : n ≤ 1000001) (w : World) : Calls Tryd.prog 27 #[.string s, .int .u8 c, .int .i64 n] w fun e W' => e = .returned (.int .i64 (opt (fnd (bn s) c n))) ∧ W' = w := by
  have HST : Hid (∀ i, i < s.size → fnd (bn s) c i = if (bn s)[i]?.getD 0 = c then some i else fnd (bn s) c (i + 1)) := fun i hi => fnd_step (by rw [bn_length]; exact hi)
  have HEN : Hid (∀ i, s.size ≤ i → fnd (bn s) c i = none) := fun i hi => fnd_end (by rw [bn_length]; exact hi)
  have HGT := hid (bn_get s)
  have HBY := hid (fun j (h : j < s.size) => byte_bd (s := s) h)
  obtain ⟨R, hR⟩ : ∃ R, fnd (bn s) c n = R := ⟨_, rfl⟩
  rw [hR]
  have H0 := hid hR
  clear hR
  go_enter Tryd.func27, Tryd.ntmps27
  go_wp2_with fail
  go_loopw [7] (fun vi wr => ∃ i : Nat, i ≤ 1000001 ∧ vi = .int .i64 (i : Int) ∧ Hid (fnd (bn s) c i = R) ∧ wr = w) (fun vi _ => s.size - (intOf vi).toNat)
  case atStart => exact ⟨n, hn, rfl, H0, rfl⟩
  case round =>
    obtain ⟨i, hi, rfl, HR, rfl⟩ := hrel
    by_cases hlt : i < s.size
    · have hltz : (i : Int) < (s.size : Int) := by omega
      have hg := (HGT.out i hlt).symm
      obtain ⟨q0, q1⟩ := HBY.out i hlt
      have HSS := hid (HST.out i hlt)
      obtain ⟨y, hy⟩ : ∃ y, (bn s)[i]?.getD 0 = y := ⟨_, rfl⟩
      rw [hy] at hg q0 q1 HSS
      clear hy HGT HBY HST HEN
      by_cases hyc : y = c
      · have HE : Hid (some i = R) := by rw [HSS.out, if_pos hyc] at HR; exact HR
        have e : (y == c) = true := by simpa using hyc
        clear HSS HR hyc
        go_wp2
        go_ret
        exact ⟨by rw [← HE.out]; rfl, rfl⟩
      · have HE : Hid (fnd (bn s) c (i + 1) = R) := by rw [HSS.out, if_neg hyc] at HR; exact HR
        have e : (y == c) = false := by simpa using hyc
        clear HSS HR hyc
        go_wp2
        go_roundw
        case rel => exact ⟨i + 1, by omega, by go_num, HE, by first | rfl | trivial⟩
        case measure => simp [intOf]; omega
    · have hltz : ¬ (i : Int) < (s.size : Int) := by omega
      have HE := hid (HR.out.symm.trans (HEN.out i (by omega)))
      clear HR
      go_wp2
      go_ret
      exact ⟨by rw [HE.out]; rfl, rfl⟩
def rng (c : Int) : Bool := decide (97 ≤ c ∧ c ≤ 122) || decide (65 ≤ c ∧ c ≤ 90) || decide (48 ≤ c ∧ c ≤ 57)
theorem sg_get (k : Nat) (h : k < 15) : ((⟨#[33, 35, 36, 37, 38, 39, 42, 43, 45, 46, 94, 95, 96, 124, 126]⟩ : ByteArray)[k]'h).toNat = sg[k]?.getD 0 := by
  have : k = 0 ∨ k = 1 ∨ k = 2 ∨ k = 3 ∨ k = 4 ∨ k = 5 ∨ k = 6 ∨ k = 7 ∨ k = 8 ∨ k = 9 ∨ k = 10 ∨ k = 11 ∨ k = 12 ∨ k = 13 ∨ k = 14 := by omega
  rcases this with rfl | rfl | rfl | rfl | rfl | rfl | rfl | rfl | rfl | rfl | rfl | rfl | rfl | rfl | rfl <;> rfl
theorem sg_step (y : Int) (k : Nat) (h : k < 15) : (sg.take (k + 1)).contains y = ((sg.take k).contains y || sg[k]?.getD 0 == y) := by
  rw [F.take_one sg k h, List.contains_eq_any_beq, List.contains_eq_any_beq, List.any_append]
  congr 1
  rw [Bool.eq_iff_iff]
  simp
  exact eq_comm
set_option maxRecDepth 100000 in
set_option maxHeartbeats 4000000 in
theorem rtoken_any (s : ByteArray) (hs : s.size ≤ 1000000) (w : World) : Calls Tryd.prog 13 #[.string s] w fun e W' => e = .returned (.bool (tok (bn s))) ∧ W' = w := by
  have HTK : Hid (tok (bn s) = (decide (0 < s.size) && (bn s).all tc)) := by
    show _ = _
    unfold tok
    congr 1
    rw [Bool.eq_iff_iff]
    simp [← bn_length, List.length_pos_iff]
  have HAL : Hid (∀ i, i < s.size → (bn s).all tc = true → tc ((bn s)[i]?.getD 0) = true) := fun i hi h => by
    have hl : i < (bn s).length := by rw [bn_length]; exact hi
    rw [List.getElem?_eq_getElem hl]
    exact List.all_eq_true.1 h _ (List.getElem_mem hl)
  have HAA : Hid ((∀ i, i < s.size → tc ((bn s)[i]?.getD 0) = true) → (bn s).all tc = true) := fun h => by
    refine List.all_eq_true.2 fun x hx => ?_
    obtain ⟨i, hi, rfl⟩ := List.getElem_of_mem hx
    have := h i (by rw [← bn_length]; exact hi)
    rw [List.getElem?_eq_getElem hi] at this
    exact this
  have HGT := hid (bn_get s)
  have HBY := hid (fun j (h : j < s.size) => byte_bd (s := s) h)
  have HSG := hid sg_get
  have HSP := hid sg_step
  go_enter Tryd.func13, Tryd.ntmps13
  go_wp2_with fail
  go_loopw [3] (fun vi wr => ∃ i : Nat, i ≤ s.size ∧ vi = .int .i64 (i : Int) ∧ Hid (∀ j, j < i → tc ((bn s)[j]?.getD 0) = true) ∧ wr = w) (fun vi _ => s.size - (intOf vi).toNat)
  case atStart => exact ⟨0, Nat.zero_le _, rfl, fun j h => absurd h (Nat.not_lt_zero _), rfl⟩
  case round =>
    obtain ⟨i, hi, rfl, HR, rfl⟩ := hrel
    by_cases hlt : i < s.size
    · have hltz : (i : Int) < (s.size : Int) := by omega
      have hg := (HGT.out i hlt).symm
      obtain ⟨q0, q1⟩ := HBY.out i hlt
      obtain ⟨y, hy⟩ : ∃ y, (bn s)[i]?.getD 0 = y := ⟨_, rfl⟩
      have HY := hid hy
      rw [hy] at hg q0 q1
      clear hy
      go_upto_region 5 with fail
      go_cut [5] from 7 to 50 (fun v5 wc => v5 = .bool (rng y) ∧ wc = wr)
      case first =>
        have h7 : y < 48 ∨ (48 ≤ y ∧ y ≤ 57) ∨ (58 ≤ y ∧ y ≤ 64) ∨ (65 ≤ y ∧ y ≤ 90) ∨ (91 ≤ y ∧ y ≤ 96) ∨ (97 ≤ y ∧ y ≤ 122) ∨ 123 ≤ y := by omega
        have HG : ∀ b, rng y = b → Hid (rng y = b) := fun b h => h
        rcases h7 with h | ⟨h, g⟩ | ⟨h, g⟩ | ⟨h, g⟩ | ⟨h, g⟩ | ⟨h, g⟩ | h
        · have E := HG false (by unfold rng; simp; omega)
          have a1 : ¬ (97 ≤ y) := by omega
          have a2 : ¬ (65 ≤ y) := by omega
          have a3 : ¬ (48 ≤ y) := by omega
          clear HG
          go_wp2
          go_meet
          case rel => exact ⟨by rw [E.out], rfl⟩
        · have E := HG true (by unfold rng; simp; omega)
          have a1 : ¬ (97 ≤ y) := by omega
          have a2 : ¬ (65 ≤ y) := by omega
          clear HG
          go_wp2
          go_meet
          case rel => exact ⟨by rw [E.out], rfl⟩
        · have E := HG false (by unfold rng; simp; omega)
          have a1 : ¬ (97 ≤ y) := by omega
          have a2 : ¬ (65 ≤ y) := by omega
          have a3 : 48 ≤ y := by omega
          have a4 : ¬ (y ≤ 57) := by omega
          clear HG
          go_wp2
          go_meet
          case rel => exact ⟨by rw [E.out], rfl⟩
        · have E := HG true (by unfold rng; simp; omega)
          have a1 : ¬ (97 ≤ y) := by omega
          clear HG
          go_wp2
          go_meet
          case rel => exact ⟨by rw [E.out], rfl⟩
        · have E := HG false (by unfold rng; simp; omega)
          have a1 : ¬ (97 ≤ y) := by omega
          have a2 : 65 ≤ y := by omega
          have a3 : ¬ (y ≤ 90) := by omega
          have a4 : 48 ≤ y := by omega
          have a5 : ¬ (y ≤ 57) := by omega
          clear HG
          go_wp2
          go_meet
          case rel => exact ⟨by rw [E.out], rfl⟩
        · have E := HG true (by unfold rng; simp; omega)
          clear HG
          go_wp2
          go_meet
          case rel => exact ⟨by rw [E.out], rfl⟩
        · have E := HG false (by unfold rng; simp; omega)
          have a1 : 97 ≤ y := by omega
          have a2 : ¬ (y ≤ 122) := by omega
          have a3 : 65 ≤ y := by omega
          have a4 : ¬ (y ≤ 90) := by omega
          have a5 : 48 ≤ y := by omega
          have a6 : ¬ (y ≤ 57) := by omega
          clear HG
          go_wp2
          go_meet
          case rel => exact ⟨by rw [E.out], rfl⟩
      case rest =>
        obtain ⟨rfl, rfl⟩ := hcut
        have HTC : Hid (tc y = (rng y || sg.contains y)) := rfl
        obtain ⟨r, hr⟩ : ∃ r, rng y = r := ⟨_, rfl⟩
        rw [hr] at HTC ⊢
        clear hr
        clear HGT HBY HAL HAA q0 q1
        go_wp2_with fail
        go_loopw [5, 6] (fun v5 vi wr2 => ∃ k : Nat, k ≤ 15 ∧ vi = .int .i64 (k : Int) ∧ v5 = .bool (r || (sg.take k).contains y) ∧ wr2 = wc) (fun v5 vi _ => 15 - (intOf vi).toNat)
        case atStart => exact ⟨0, Nat.zero_le _, rfl, by simp, rfl⟩
        case round =>
          obtain ⟨k, hk, rfl, rfl, rfl⟩ := hrel
          by_cases hk2 : k < 15
          · have hkz : (k : Int) < 15 := by omega
            have hg2 := HSG.out k hk2
            have HS2 := hid (HSP.out y k hk2)
            obtain ⟨z, hz⟩ : ∃ z, sg[k]?.getD 0 = z := ⟨_, rfl⟩
            rw [hz] at hg2 HS2
            obtain ⟨b, hb⟩ : ∃ b, (r || (sg.take k).contains y) = b := ⟨_, rfl⟩
            have HB := hid hb
            rw [hb]
            clear hz hb HSG HSP
            cases b
            · obtain ⟨f, hf⟩ : ∃ f, (z == y) = f := ⟨_, rfl⟩
              have HE : Hid ((r || (sg.take (k + 1)).contains y) = f) := by show _ = _; rw [HS2.out, ← Bool.or_assoc, HB.out, hf]; rfl
              clear HS2 HB
              go_wp2
              go_roundw
              case rel => exact ⟨k + 1, by omega, by go_num, by rw [HE.out], by first | rfl | trivial⟩
              case measure => simp [intOf]; omega
            · have HE : Hid ((r || (sg.take (k + 1)).contains y) = true) := by show _ = _; rw [HS2.out, ← Bool.or_assoc, HB.out]; rfl
              clear HS2 HB
              go_wp2
              go_roundw
              case rel => exact ⟨k + 1, by omega, by go_num, by rw [HE.out], by first | rfl | trivial⟩
              case measure => simp [intOf]; omega
          · have hkz : ¬ (k : Int) < 15 := by omega
            obtain rfl : k = 15 := by omega
            have HE : Hid ((r || (sg.take 15).contains y) = tc y) := HTC.out.symm
            obtain ⟨b, hb⟩ : ∃ b, tc y = b := ⟨_, rfl⟩
            rw [hb] at HE
            have HB := hid hb
            rw [HE.out]
            clear hb HE HTC
            cases b
            · have HN : Hid (tok (bn s) = false) := by
                show _ = _
                rw [HTK.out]
                cases hh : (bn s).all tc with
                | false => simp
                | true => 
                  have := List.all_eq_true.1 hh y (by
                    have hl : i < (bn s).length := by rw [bn_length]; exact hlt
                    have e := HY.out
                    rw [List.getElem?_eq_getElem hl] at e
                    rw [← e]
                    exact List.getElem_mem hl)
                  rw [HB.out] at this
                  cases this
              clear HB
              go_wp2
              go_ret
              exact ⟨by rw [HN.out]; rfl, by first | rfl | trivial⟩
            · go_wp2
              go_roundw
              case rel => exact ⟨i + 1, by omega, by go_num, fun j hj => by
                by_cases h : j < i
                · exact HR.out j h
                · obtain rfl : j = i := by omega
                  rw [HY.out]; exact HB.out, by first | rfl | trivial⟩
              case measure => simp [intOf]; omega
    · have hltz : ¬ (i : Int) < (s.size : Int) := by omega
      have HE : Hid ((bn s).all tc = true) := HAA.out fun j hj => HR.out j (by omega)
      clear HR
      by_cases h0 : 0 < s.size
      · have h1 : (0 : Int) < (s.size : Int) := by omega
        have HE2 : Hid (tok (bn s) = true) := by show _ = _; rw [HTK.out, HE.out]; simp [h0]
        go_wp2
        go_ret
        exact ⟨by rw [HE2.out]; rfl, by first | rfl | trivial⟩
      · have h1 : ¬ (0 : Int) < (s.size : Int) := by omega
        have HE2 : Hid (tok (bn s) = false) := by show _ = _; rw [HTK.out]; simp [h0]
        go_wp2
        go_ret
        exact ⟨by rw [HE2.out]; rfl, by first | rfl | trivial⟩
end Go.Proofs.YtacbfbhhhofifaaDoor.Hd
