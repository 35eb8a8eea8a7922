/- lex.isWord, isToken, isBlankBetween; lex.areLines. -/
import Derived.Test.YtphkdagapoonjaaGreatDoorZLPO
import Derived.Test.YtphkdagapoonjaaGreatDoorLPK
import Derived.Test.YtphkdagapoonjaaGreatDoorZFO
import Derived.Deep.MidRow
namespace Go.Proofs.YtphkdagapoonjaaGreatDoor.Lx
open Go.RowKit
open Go.Proofs.YtphkdagapoonjaaGreatDoor.F (bn bn_length bn_append bn_inj bn_get byte_bd hid bn_extract isEmpty_false isEmpty_true str_eq same_eq)
open Go.Proofs.YtphkdagapoonjaaGreatDoor.U (nx enc encs scal val Bytes)
set_option linter.unusedVariables false

def cr (r : Nat) : Bool := decide ((r : Int) < 32 ∨ (r : Int) = 127)
theorem idx_ctl (s : ByteArray) : ∀ (f p : Nat), s.size ≤ p + f → val ((bn s).drop p) = true → (0 ≤ Lib.idxFuncFrom cr true s f p ↔ ∃ c ∈ (bn s).drop p, c < 32 ∨ c = 127)
  | 0, p, h, _ => by
    rw [List.drop_eq_nil_of_le (by rw [bn_length]; omega)]
    simp [Lib.idxFuncFrom]
  | f + 1, p, h, hv => by
    rw [Lib.idxFuncFrom]
    by_cases hp : p < s.size
    · rw [if_pos hp]
      obtain ⟨h1, h2, h3, h4, h5⟩ := vr_step s p hp hv
      have hsp := rn_step s p hp
      have ih := idx_ctl s f (p + (Utf8.decode s p).2) (by omega) h5
      have hdt : (bn s).drop p = ((bn s).drop p).take (Utf8.decode s p).2 ++ (bn s).drop (p + (Utf8.decode s p).2) := by rw [← List.drop_drop, List.take_append_drop]
      obtain ⟨R, hR⟩ : ∃ R, (Utf8.decode s p).1 = R := ⟨_, rfl⟩
      obtain ⟨K, hK⟩ : ∃ K, (Utf8.decode s p).2 = K := ⟨_, rfl⟩
      rw [hR, hK] at h2 hsp
      rw [hK] at ih hdt
      rw [hR, hK]
      have hc0 : scal (R : Int) = true := by rw [← hR]; exact h1
      by_cases hc : cr R = true
      · rw [if_pos hc]
        unfold cr at hc
        have hc := of_decide_eq_true hc
        refine ⟨fun _ => ⟨(R : Int), ?_, hc⟩, fun _ => by omega⟩
        rw [hdt, ← h2]
        unfold enc
        rw [if_pos (by omega)]
        simp
      · rw [if_neg hc, ih]
        unfold cr at hc
        have hc := of_decide_eq_false (Bool.eq_false_iff.2 hc)
        constructor
        · rintro ⟨c, hm, hx⟩
          exact ⟨c, by rw [hdt]; exact List.mem_append.2 (.inr hm), hx⟩
        · rintro ⟨c, hm, hx⟩
          rw [hdt, ← h2] at hm
          rcases List.mem_append.1 hm with hm | hm
          · exfalso
            by_cases h128 : (R : Int) < 128
            · unfold enc at hm
              rw [if_pos h128] at hm
              have : c = R := by simpa using hm
              subst this
              exact hc hx
            · have := enc_high (c := (R : Int)) (by omega) c hm
              omega
          · exact ⟨c, hm, hx⟩
    · rw [if_neg hp, List.drop_eq_nil_of_le (by rw [bn_length]; omega)]
      simp
set_option maxRecDepth 100000 in
theorem cf_any (s : ByteArray) (hv : val (bn s) = true) (w : World) : Calls Tryz.prog 79 #[.string s, .func (.func 29) #[] #[]] w fun e w' => (∃ b : Bool, (b = true ↔ ∃ c ∈ bn s, c < 32 ∨ c = 127) ∧ e = .returned (.bool b)) ∧ Below w.heap.size w w' := by
  have hp : PredAtRunes Tryz.prog 29 #[] cr w := fun W x hx hb => by
    unfold FnGives
    have e0 : #[encR x] ++ (#[] : Array Value) = #[Value.int .i32 (x : Int)] := by simp [encR]
    rw [e0]
    refine (ctl_any (x : Int) W).mono ?_
    rintro e w' ⟨h1, h2⟩
    exact ⟨h1, 0, h2⟩
  have hq := Any.strings_ContainsFunc_runes Tryz.lGw17 29 #[] (enters_of Tryz.func29 (by kernel_rfl) rfl) cr s w hp
  have hf : Tryz.lGw17_ren.f 17 = 79 := by kernel_rfl
  rw [hf] at hq
  refine hq.mono ?_
  rintro e w' ⟨rfl, B⟩
  refine ⟨⟨_, ?_, rfl⟩, B⟩
  have h := idx_ctl s s.size 0 (by omega) (by rw [List.drop_zero]; exact hv)
  rw [List.drop_zero] at h
  have e : Lib.idxFunc cr true s = Lib.idxFuncFrom cr true s s.size 0 := rfl
  rw [e]
  exact decide_eq_true_iff.trans h
def WdR (l : List Int) (e : Ending) : Prop := (wd l ∧ e = .returned (.bool true)) ∨ (¬ wd l ∧ e = .returned (.bool false))
theorem tw_same {l : List Int} : l.takeWhile nen = l ↔ ∀ c ∈ l, en c = false := by
  constructor
  · intro h c hc
    rw [← h] at hc
    have := tw_mem _ hc
    unfold nen at this
    simpa using this
  · intro h
    exact (tw_all (fun c hc => by unfold nen; rw [h c hc]; rfl)).1
set_option maxRecDepth 100000 in
set_option maxHeartbeats 4000000 in
theorem isword_any (s : ByteArray) (hs : s.size ≤ 1000000000) (w : World) (G : Gl w) : Calls Tryz.prog 56 #[.string s] w fun e w' => WdR (bn s) e ∧ Below w.heap.size w w' := by
  by_cases h0 : s.size = 0
  · have hemp := isEmpty_true s h0
    have HF : Hid (WdR (bn s) (.returned (.bool false))) := .inr ⟨fun h => h.1 (List.length_eq_zero_iff.1 (by rw [bn_length]; exact h0)), rfl⟩
    clear h0 G
    go_enter Tryz.func56, Tryz.ntmps56
    go_wp2
    go_ret
    exact ⟨HF.out, Below.refl _ _⟩
  have hemp := isEmpty_false s (by omega)
  have hne : bn s ≠ [] := fun e => h0 (by rw [← bn_length, e]; rfl)
  have HW := hid (word2_any s hs w)
  have HG := hid (fun W (h : Below w.heap.size w W) => G.below h)
  by_cases hen : ∀ c ∈ bn s, en c = false
  · cases hv : val (bn s) with
    | true =>
      have HN := hid (And.intro hne (And.intro hv hen))
      have HTW := hid (tw_same.2 hen)
      have HV := hid (fun W (h : Below w.heap.size w W) => valid_any s hs W (HG.out W h))
      rw [hv] at HV
      have HC := hid (fun W => cf_any s hv W)
      clear hv hen hne h0 G HG
      go_enter Tryz.func56, Tryz.ntmps56
      go_wp2_with fail
      refine HW.out.mono ?_
      rintro e w2 ⟨⟨u, hu, rfl⟩, B⟩
      have hse : (u.toList == s.toList) = true := by rw [str_eq, hu, HTW.out]; exact decide_eq_true rfl
      have HB := hid B
      have HV2 := hid (HV.out w2 B)
      clear hu B HV HW HTW
      go_wp2_with fail
      refine HV2.out.mono ?_
      rintro e w3 ⟨rfl, B⟩
      have HB3 := hid (HB.out.trans (B.mono HB.out.size))
      clear B
      go_wp2_with fail
      refine (HC.out w3).mono ?_
      rintro e w4 ⟨⟨b, hb, rfl⟩, B⟩
      have HB4 := hid (HB3.out.trans (B.mono HB3.out.size))
      cases b with
      | true =>
        have HF : Hid (WdR (bn s) (.returned (.bool false))) := .inr ⟨fun h => by
          obtain ⟨c, hm, hx⟩ := hb.1 rfl
          have := h.2.2 c hm
          omega, rfl⟩
        clear hb B HC HV2
        go_wp2
        go_ret
        exact ⟨HF.out, HB4.out⟩
      | false =>
        have HF : Hid (WdR (bn s) (.returned (.bool true))) := .inl ⟨⟨HN.out.1, HN.out.2.1, fun c hm => by
          have h1 := HN.out.2.2 c hm
          have h2 : ¬ (c < 32 ∨ c = 127) := fun hx => by have := hb.2 ⟨c, hm, hx⟩; cases this
          have h3 := en_no h1
          exact ⟨h1, by omega, by omega⟩⟩, rfl⟩
        clear hb B HC HV2
        go_wp2
        go_ret
        exact ⟨HF.out, HB4.out⟩
    | false =>
      have HF : Hid (WdR (bn s) (.returned (.bool false))) := .inr ⟨(fun h => by rw [h.2.1] at hv; cases hv), rfl⟩
      have HTW := hid (tw_same.2 hen)
      have HV := hid (fun W (h : Below w.heap.size w W) => valid_any s hs W (HG.out W h))
      rw [hv] at HV
      clear hv hen hne h0 G HG
      go_enter Tryz.func56, Tryz.ntmps56
      go_wp2_with fail
      refine HW.out.mono ?_
      rintro e w2 ⟨⟨u, hu, rfl⟩, B⟩
      have hse : (u.toList == s.toList) = true := by rw [str_eq, hu, HTW.out]; exact decide_eq_true rfl
      have HB := hid B
      have HV2 := hid (HV.out w2 B)
      clear hu B HV HW HTW
      go_wp2_with fail
      refine HV2.out.mono ?_
      rintro e w3 ⟨rfl, B⟩
      have HB3 := hid (HB.out.trans (B.mono HB.out.size))
      clear B
      go_wp2
      go_ret
      exact ⟨HF.out, HB3.out⟩
  · have HF : Hid (WdR (bn s) (.returned (.bool false))) := .inr ⟨fun h => hen (fun c hc => (h.2.2 c hc).1), rfl⟩
    have HTW := hid (fun h => hen (tw_same.1 h))
    clear hen hne h0 G HG
    go_enter Tryz.func56, Tryz.ntmps56
    go_wp2_with fail
    refine HW.out.mono ?_
    rintro e w2 ⟨⟨u, hu, rfl⟩, B⟩
    have hse : (u.toList == s.toList) = false := by rw [str_eq, hu]; exact decide_eq_false HTW.out
    have HB := hid B
    clear hu B HW HTW
    go_wp2
    go_ret
    exact ⟨HF.out, HB.out⟩
/-- May this token stand? -/
def tok (k : Nat) (x : List Int) : Prop := k = 1 ∧ wd x ∨ k = 2 ∧ val x = true ∨ (k = 3 ∨ k = 4 ∨ k = 5) ∧ x = []
def TkR (k : Nat) (x : List Int) (e : Ending) : Prop := (tok k x ∧ e = .returned (.bool true)) ∨ (¬ tok k x ∧ e = .returned (.bool false))
set_option maxRecDepth 100000 in
set_option maxHeartbeats 4000000 in
theorem istok_any (t : Tb) (hk : t.k ≤ 255) (hs : t.x.size ≤ 1000000000) (w : World) (G : Gl w) : Calls Tryz.prog 43 #[.agg (tcs t)] w fun e w' => TkR t.k (bn t.x) e ∧ Below w.heap.size w w' := by
  obtain ⟨k, x, n, a⟩ := t
  simp only at hk hs ⊢
  obtain ⟨W0, hW0⟩ : ∃ W0, w.alloc (.cells (tcs ⟨k, x, n, a⟩) 40) = W0 := ⟨_, rfl⟩
  have hb0 : W0.heap[w.heap.size]? = some (Obj.cells (tcs ⟨k, x, n, a⟩) 40 (0, 0)) := by rw [← hW0]; exact heap_alloc_new w _
  have c0 : W0.cell? ⟨w.heap.size, 0, none⟩ = some (.int .u8 (k : Int)) := cell_of_row _ _ _ _ _ _ hb0
  have c1 : W0.cell? ⟨w.heap.size, 1, none⟩ = some (.string x) := cell_of_row _ _ _ _ _ _ hb0
  have HB0 : Hid (Below w.heap.size w W0) := by show Below _ _ _; rw [← hW0]; exact (Below.refl _ w).alloc (Nat.le_refl _) _
  have HG := hid (fun W (h : Below w.heap.size w W) => G.below h)
  have HWD := hid (isword_any x hs W0 (HG.out W0 HB0.out))
  have HV := hid (valid_any x hs W0 (HG.out W0 HB0.out))
  clear G hb0
  by_cases k1 : k = 1
  · subst k1
    go_enter Tryz.func43, Tryz.ntmps43
    go_wp2_with fail
    refine HWD.out.mono ?_
    rintro e w2 ⟨⟨hw, rfl⟩ | ⟨hw, rfl⟩, B⟩
    · have HF : Hid (TkR 1 (bn x) (.returned (.bool true))) := .inl ⟨.inl ⟨rfl, hw⟩, rfl⟩
      have HB := hid (HB0.out.trans (B.mono HB0.out.size))
      clear hw B
      go_wp2
      go_ret
      exact ⟨HF.out, HB.out⟩
    · have HF : Hid (TkR 1 (bn x) (.returned (.bool false))) := .inr ⟨fun h => by
        rcases h with h | h | h
        · exact hw h.2
        · omega
        · omega, rfl⟩
      have HB := hid (HB0.out.trans (B.mono HB0.out.size))
      clear hw B
      go_wp2
      go_ret
      exact ⟨HF.out, HB.out⟩
  by_cases k2 : k = 2
  · subst k2
    have HF : Hid (TkR 2 (bn x) (.returned (.bool (val (bn x))))) := by
      cases hv : val (bn x) with
      | true => exact .inl ⟨.inr (.inl ⟨rfl, hv⟩), rfl⟩
      | false => exact .inr ⟨fun h => by
          rcases h with h | h | h
          · omega
          · rw [h.2] at hv; cases hv
          · omega, rfl⟩
    obtain ⟨b, hb⟩ : ∃ b, val (bn x) = b := ⟨_, rfl⟩
    rw [hb] at HV HF
    clear hb k1
    go_enter Tryz.func43, Tryz.ntmps43
    go_wp2_with fail
    refine HV.out.mono ?_
    rintro e w2 ⟨rfl, B⟩
    have HB := hid (HB0.out.trans (B.mono HB0.out.size))
    clear B
    go_wp2
    go_ret
    exact ⟨HF.out, HB.out⟩
  have q1 : ((k : Int) == 1) = false := by simp; omega
  have q2 : ((k : Int) == 2) = false := by simp; omega
  by_cases k345 : k = 3 ∨ k = 4 ∨ k = 5
  · have hqs : ((k : Int) == 3) = true ∨ ((k : Int) == 3) = false ∧ ((k : Int) == 4) = true ∨ ((k : Int) == 3) = false ∧ ((k : Int) == 4) = false ∧ ((k : Int) == 5) = true := by
      rcases k345 with h | h | h <;> subst h <;> simp
    by_cases hx : x.size = 0
    · have hemp := isEmpty_true x hx
      have HF : Hid (TkR k (bn x) (.returned (.bool true))) := .inl ⟨.inr (.inr ⟨k345, List.length_eq_zero_iff.1 (by rw [bn_length]; exact hx)⟩), rfl⟩
      clear k345 k1 k2 hx HWD HV
      rcases hqs with q3 | ⟨q3, q4⟩ | ⟨q3, q4, q5⟩
      all_goals
        go_enter Tryz.func43, Tryz.ntmps43
        go_wp2
        go_ret
        exact ⟨HF.out, HB0.out⟩
    · have hemp := isEmpty_false x (by omega)
      have HF : Hid (TkR k (bn x) (.returned (.bool false))) := .inr ⟨fun h => by
        rcases h with h | h | h
        · omega
        · omega
        · exact hx (by rw [← bn_length, h.2]; rfl), rfl⟩
      clear k345 k1 k2 hx HWD HV
      rcases hqs with q3 | ⟨q3, q4⟩ | ⟨q3, q4, q5⟩
      all_goals
        go_enter Tryz.func43, Tryz.ntmps43
        go_wp2
        go_ret
        exact ⟨HF.out, HB0.out⟩
  · have q3 : ((k : Int) == 3) = false := by simp; omega
    have q4 : ((k : Int) == 4) = false := by simp; omega
    have q5 : ((k : Int) == 5) = false := by simp; omega
    have HF : Hid (TkR k (bn x) (.returned (.bool false))) := .inr ⟨fun h => by
      rcases h with h | h | h
      · omega
      · omega
      · exact k345 h.1, rfl⟩
    clear k345 k1 k2 HWD HV
    go_enter Tryz.func43, Tryz.ntmps43
    go_wp2
    go_ret
    exact ⟨HF.out, HB0.out⟩
def blank (a k : Nat) : Bool := decide (a ≠ 5 ∧ a ≠ 4 ∧ k ≠ 5 ∧ k ≠ 3)
set_option maxRecDepth 100000 in
set_option maxHeartbeats 2000000 in
theorem blank_any (a k : Nat) (w : World) : Calls Tryz.prog 20 #[.int .u8 (a : Int), .int .u8 (k : Int)] w fun e w' => e = .returned (.bool (blank a k)) ∧ w' = w := by
  have h5 : ((a : Int) != 5) = decide (a ≠ 5) := by rw [Bool.eq_iff_iff]; simp; omega
  have h4 : ((a : Int) != 4) = decide (a ≠ 4) := by rw [Bool.eq_iff_iff]; simp; omega
  have k5 : ((k : Int) != 5) = decide (k ≠ 5) := by rw [Bool.eq_iff_iff]; simp; omega
  have k3 : ((k : Int) != 3) = decide (k ≠ 3) := by rw [Bool.eq_iff_iff]; simp; omega
  by_cases a5 : a = 5
  · have e : blank a k = false := by unfold blank; simp [a5]
    rw [decide_eq_false (by omega)] at h5
    rw [e]
    clear a5 h4 k5 k3 e
    go_enter Tryz.func20, Tryz.ntmps20
    go_wp2
    go_ret
    exact ⟨rfl, rfl⟩
  rw [decide_eq_true a5] at h5
  by_cases a4 : a = 4
  · have e : blank a k = false := by unfold blank; simp [a4]
    rw [decide_eq_false (by omega)] at h4
    rw [e]
    clear a5 a4 k5 k3 e
    go_enter Tryz.func20, Tryz.ntmps20
    go_wp2
    go_ret
    exact ⟨rfl, rfl⟩
  rw [decide_eq_true a4] at h4
  by_cases b5 : k = 5
  · have e : blank a k = false := by unfold blank; simp [b5]
    rw [decide_eq_false (by omega)] at k5
    rw [e]
    clear a5 a4 b5 k3 e
    go_enter Tryz.func20, Tryz.ntmps20
    go_wp2
    go_ret
    exact ⟨rfl, rfl⟩
  rw [decide_eq_true b5] at k5
  have e : blank a k = decide (k ≠ 3) := by unfold blank; rw [Bool.eq_iff_iff]; simp; omega
  rw [e]
  obtain ⟨z, hz⟩ : ∃ z, decide (k ≠ 3) = z := ⟨_, rfl⟩
  rw [hz] at k3 ⊢
  clear a5 a4 b5 e hz
  go_enter Tryz.func20, Tryz.ntmps20
  go_wp2
  go_ret
  exact ⟨rfl, rfl⟩
end Go.Proofs.YtphkdagapoonjaaGreatDoor.Lx
namespace Go.Proofs.YtphkdagapoonjaaGreatDoor.Lx
open Go.RowKit
open Go.Proofs.YtphkdagapoonjaaGreatDoor.F (bn bn_length bn_append bn_inj bn_get byte_bd hid bn_extract isEmpty_false isEmpty_true str_eq same_eq)
open Go.Proofs.YtphkdagapoonjaaGreatDoor.U (nx enc encs scal val Bytes)
set_option linter.unusedVariables false

/-- Tokens of a size that is bounded. -/
def Sml (l : List Tb) : Prop := ∀ t ∈ l, t.k ≤ 255 ∧ t.x.size ≤ 1000000
theorem ok_cons (last : Nat) (t : Tk) (r : List Tk) : ok last (t :: r) ↔ (tok t.k t.x ∧ ¬ (t.k = 5 ∧ last = 5)) ∧ ok t.k r := by
  unfold tok
  rw [ok]
  constructor
  · rintro ⟨h, h2⟩
    refine ⟨⟨?_, ?_⟩, h2⟩
    · rcases h with h | h | ⟨h | h | h, h3⟩
      · exact .inl h
      · exact .inr (.inl h)
      · exact .inr (.inr ⟨.inl h, h3⟩)
      · exact .inr (.inr ⟨.inr (.inl h), h3⟩)
      · exact .inr (.inr ⟨.inr (.inr h.1), h3⟩)
    · rintro ⟨h5, hl⟩
      rcases h with h | h | ⟨h | h | h, h3⟩
      · omega
      · omega
      · omega
      · omega
      · exact h.2 hl
  · rintro ⟨⟨h, hn⟩, h2⟩
    refine ⟨?_, h2⟩
    rcases h with h | h | ⟨h | h | h, h3⟩
    · exact .inl h
    · exact .inr (.inl h)
    · exact .inr (.inr ⟨.inl h, h3⟩)
    · exact .inr (.inr ⟨.inr (.inl h), h3⟩)
    · exact .inr (.inr ⟨.inr (.inr ⟨h, fun hl => hn ⟨h, hl⟩⟩), h3⟩)
set_option maxRecDepth 100000 in
set_option maxHeartbeats 4000000 in
theorem arl_any (a : Option Addr) (n c : Nat) (l : List Tb) (w : World) (hat : TokAt w (.slice a n c) l) (hn : n ≤ 1000000) (hs : Sml l) (G : Gl w) :
    Calls Tryz.prog 19 #[.slice a n c] w fun e w' => ((ok 5 (l.map Tb.tk) ∧ e = .returned (.bool true)) ∨ (¬ ok 5 (l.map Tb.tk) ∧ e = .returned (.bool false))) ∧ Below w.heap.size w w' := by
  obtain rfl := hat.len
  have HA := hid hat
  have HS := hid hs
  have HG := hid (fun W (h : Below w.heap.size w W) => G.below h)
  clear hat hs G
  go_enter Tryz.func19, Tryz.ntmps19
  go_wp2
  go_loopw [3, 8] (fun v3 v8 wr => ∃ (i last : Nat), v3 = .int .u8 (last : Int) ∧ v8 = .int .i64 (i : Int) ∧ i ≤ l.length ∧ last ≤ 255 ∧ Hid (ok 5 (l.map Tb.tk) ↔ ok last ((l.drop i).map Tb.tk)) ∧ Hid (Below w.heap.size w wr)) (fun _ v8 _ => l.length - (intOf v8).toNat)
  case atStart => exact ⟨0, 5, rfl, rfl, by omega, by omega, Iff.rfl, Below.refl _ _⟩
  case round =>
    obtain ⟨i, last, rfl, rfl, hi, hl5, HO, HB⟩ := hrel
    by_cases hlt : i < l.length
    · obtain ⟨b, off, rfl, e0, e1, e2, e3⟩ := HA.out.cell hlt
      obtain ⟨⟨k, x, nn', aa⟩, ht⟩ : ∃ t, l[i]?.getD z4 = t := ⟨_, rfl⟩
      rw [ht] at e0 e1 e2 e3
      have f0 := keeps HB.out e0
      have f1 := keeps HB.out e1
      have f2 := keeps HB.out e2
      have f3 := keeps HB.out e3
      simp only at f0 f1 f2 f3
      clear e0 e1 e2 e3
      obtain ⟨hk, hx⟩ : k ≤ 255 ∧ x.size ≤ 1000000 := by
        have hm : l[i]?.getD z4 ∈ l := by rw [List.getElem?_eq_getElem hlt]; exact List.getElem_mem hlt
        rw [ht] at hm
        exact HS.out _ hm
      have hdr : (l.drop i).map Tb.tk = ⟨k, bn x, nn'.toNat, aa.toNat⟩ :: (l.drop (i + 1)).map Tb.tk := by
        rw [List.drop_eq_getElem_cons hlt, List.map_cons]
        rw [List.getElem?_eq_getElem hlt] at ht
        have ht' : l[i] = ⟨k, x, nn', aa⟩ := ht
        rw [ht']; rfl
      have HO2 : Hid (ok 5 (l.map Tb.tk) ↔ (tok k (bn x) ∧ ¬ (k = 5 ∧ last = 5)) ∧ ok k ((l.drop (i + 1)).map Tb.tk)) := by
        show _ ↔ _
        rw [HO.out, hdr, ok_cons]
      obtain ⟨W0, hW0⟩ : ∃ W0, wr.alloc (.cells (tcs ⟨k, x, nn', aa⟩) 40) = W0 := ⟨_, rfl⟩
      have HB0 : Hid (Below w.heap.size w W0) := by show Below _ _ _; rw [← hW0]; exact HB.out.alloc HB.out.size _
      have hb0 : W0.heap[wr.heap.size]? = some (Obj.cells (tcs ⟨k, x, nn', aa⟩) 40 (0, 0)) := by rw [← hW0]; exact heap_alloc_new wr _
      have HTK := hid (istok_any ⟨k, x, nn', aa⟩ hk (by simp only; omega) W0 (HG.out W0 HB0.out))
      have hc0 : W0.cell? ⟨wr.heap.size, 0, none⟩ = some (.int .u8 (k : Int)) := cell_of_row _ _ _ _ _ _ hb0
      have hc1 : W0.cell? ⟨wr.heap.size, 1, none⟩ = some (.string x) := cell_of_row _ _ _ _ _ _ hb0
      have hc2 : W0.cell? ⟨wr.heap.size, 2, none⟩ = some (.int .i64 nn') := cell_of_row _ _ _ _ _ _ hb0
      have hc3 : W0.cell? ⟨wr.heap.size, 3, none⟩ = some (.int .i64 aa) := cell_of_row _ _ _ _ _ _ hb0
      simp only at HTK
      clear HO hdr ht hx hb0
      have hmain : Hid (∀ (e : Ending) (w2 : World), TkR k (bn x) e → Below W0.heap.size W0 w2 → w2.cell? ⟨wr.heap.size, 0, none⟩ = some (.int .u8 (k : Int)) ∧ Below w.heap.size w w2) := fun e w2 _ B => ⟨keeps B hc0, HB0.out.trans (B.mono HB0.out.size)⟩
      go_wp2_with fail
      refine HTK.out.mono ?_
      rintro e w2 ⟨hq, B⟩
      clear hc0 hc1 hc2 hc3
      obtain ⟨c2, hB2⟩ := hmain.out e w2 hq B
      have HB2 := hid hB2
      clear hmain hB2 B HTK hW0 HB0
      rcases hq with ⟨hw, rfl⟩ | ⟨hw, rfl⟩
      · by_cases h5 : k = 5
        · subst h5
          by_cases hl : last = 5
          · subst hl
            have HF : Hid (¬ ok 5 (l.map Tb.tk)) := fun h => (HO2.out.1 h).1.2 ⟨rfl, rfl⟩
            clear HO2 hw
            go_wp2
            go_ret
            exact ⟨.inr ⟨HF.out, rfl⟩, HB2.out⟩
          · have hlb : ((last : Int) == 5) = false := by simp; omega
            have HN : Hid (ok 5 (l.map Tb.tk) ↔ ok 5 ((l.drop (i + 1)).map Tb.tk)) := HO2.out.trans ⟨fun h => h.2, fun h => ⟨⟨hw, fun h => hl h.2⟩, h⟩⟩
            clear HO2 hw hl
            go_wp2
            go_roundw
            case rel => exact ⟨i + 1, 5, by rfl, by go_num, by omega, by omega, HN.out, HB2.out⟩
            case measure => simp [intOf]; omega
        · have h5b : ((k : Int) == 5) = false := by simp; omega
          have HN : Hid (ok 5 (l.map Tb.tk) ↔ ok k ((l.drop (i + 1)).map Tb.tk)) := HO2.out.trans ⟨fun h => h.2, fun h => ⟨⟨hw, fun h => h5 h.1⟩, h⟩⟩
          clear HO2 hw h5
          go_wp2
          go_roundw
          case rel => exact ⟨i + 1, k, by rfl, by go_num, by omega, by omega, HN.out, HB2.out⟩
          case measure => simp [intOf]; omega
      · have HF : Hid (¬ ok 5 (l.map Tb.tk)) := fun h => hw (HO2.out.1 h).1.1
        clear HO2 hw
        go_wp2
        go_ret
        exact ⟨.inr ⟨HF.out, rfl⟩, HB2.out⟩
    · have hie : l.drop i = [] := List.drop_eq_nil_of_le (by omega)
      have HN : Hid (ok 5 (l.map Tb.tk) ↔ last = 5) := by
        have h := HO.out
        rw [hie] at h
        exact h
      clear HO hie
      by_cases hl : last = 5
      · subst hl
        have HF := hid (HN.out.2 rfl)
        clear HN
        go_wp2
        go_ret
        exact ⟨.inl ⟨HF.out, rfl⟩, HB.out⟩
      · have hlb : ((last : Int) == 5) = false := by simp; omega
        have HF := hid (fun h => hl (HN.out.1 h))
        clear HN hl
        go_wp2
        go_ret
        exact ⟨.inr ⟨HF.out, rfl⟩, HB.out⟩
end Go.Proofs.YtphkdagapoonjaaGreatDoor.Lx
