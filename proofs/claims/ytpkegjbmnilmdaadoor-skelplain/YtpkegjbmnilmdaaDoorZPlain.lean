/- The statement SkelPlain: a text of small letters, in which none looks like something else, is its own skeleton, and one more letter makes another one; for every input, the listed variable, the names of the scripts, as the text of the program lays it (the card ties it): the call returns true and its arguments read behind it as they read before. -/
import Derived.Test.YtpkegjbmnilmdaaDoorZM4
import Derived.Test.YtpkegjbmnilmdaaDoorZU3
import Derived.Test.YtpkegjbmnilmdaaDoorCards
import Derived.Test.YtpkegjbmnilmdaaDoorTie
import Derived.Test.YtpkegjbmnilmdaaDoorZM3
import Derived.WalkKit
import Derived.ShutString
import Derived.ChangeOld
import Derived.Below
import Derived.SevenTiedAt
/- SkelPlain: the walk. -/
namespace Go.Proofs.YtpkegjbmnilmdaaDoor.S
open Go.RowKit
set_option linter.unusedVariables false

theorem encs_plain : ∀ {l : List Int}, (∀ c ∈ l, c < 128) → U.encs l = l
  | [], _ => rfl
  | c :: l, h => by
    have h1 := h c (by simp)
    have ih := encs_plain (l := l) (fun x hx => h x (by simp [hx]))
    show U.enc c ++ U.encs l = _
    rw [ih]
    unfold U.enc
    rw [if_pos (by omega)]; rfl
theorem dec_plain {l : List Int} (h : ∀ c ∈ l, 0 ≤ c ∧ c < 128) : U.dec l = l := by
  have e := encs_plain (l := l) (fun c hc => (h c hc).2)
  have s : ∀ c ∈ l, U.scal c = true := fun c hc => by
    have := h c hc
    unfold U.scal
    simp; omega
  have := encs_scal s
  rwa [e] at this
/-- A small letter that looks like nothing else. -/
def sml (c : Int) : Prop := 97 ≤ c ∧ c ≤ 122 ∧ c ≠ 109
theorem sml_own {c : Int} (h : sml c) : own c := by
  obtain ⟨h1, h2, h3⟩ := h
  have := own_letter ⟨(c - 97).toNat, by omega⟩ (by simp; omega)
  simp only at this
  rwa [show (97 : Int) + ((c - 97).toNat : Nat) = c by omega] at this
theorem sk_sml {T : ByteArray} (h : ∀ c ∈ U.bn T, sml c) : sk T = U.bn T := by
  unfold sk
  rw [dec_plain (fun c hc => by have := h c hc; unfold sml at this; omega), skl_own (fun c hc => sml_own (h c hc))]
theorem text_sml {T : ByteArray} (h : ∀ c ∈ U.bn T, sml c) : U.encs (sk T) = U.bn T := by
  rw [sk_sml h]; exact encs_plain (fun c hc => by have := h c hc; unfold sml at this; omega)
theorem more_sml {T : ByteArray} (h : ∀ c ∈ U.bn T, sml c) : decide (sk T = sk (T ++ ⟨#[97]⟩)) = false := by
  have h2 : ∀ c ∈ U.bn (T ++ ⟨#[97]⟩), sml c := fun c hc => by
    rw [U.bn_append] at hc
    rcases List.mem_append.1 hc with hc | hc
    · exact h c hc
    · have : c = 97 := by simpa [U.bn] using hc
      rw [this]; unfold sml; omega
  rw [sk_sml h, sk_sml h2]
  apply decide_eq_false
  intro e
  have := congrArg List.length e
  rw [U.bn_append, List.length_append] at this
  have h1 : (U.bn ⟨#[97]⟩).length = 1 := rfl
  omega
theorem em_sml {T : ByteArray} (h : ∀ c ∈ U.bn T, sml c) : decide (sk (T ++ ⟨#[109]⟩) = sk (T ++ ⟨#[114, 110]⟩)) = true := by
  apply decide_eq_true
  have e1 : U.bn (T ++ ⟨#[109]⟩) = U.bn T ++ [109] := by rw [U.bn_append]; rfl
  have e2 : U.bn (T ++ ⟨#[114, 110]⟩) = U.bn T ++ [114, 110] := by rw [U.bn_append]; rfl
  unfold sk
  rw [e1, e2, dec_plain, dec_plain]
  · exact skl_m (fun c hc => sml_own (h c hc))
  · intro c hc
    rcases List.mem_append.1 hc with hc | hc
    · have := h c hc; unfold sml at this; omega
    · simp at hc; omega
  · intro c hc
    rcases List.mem_append.1 hc with hc | hc
    · have := h c hc; unfold sml at this; omega
    · simp at hc; omega
def abc : ByteArray := ⟨#[97, 98, 99, 100, 101, 102, 103, 104, 105, 106, 107, 108, 110, 111, 112, 113, 114, 115, 116, 117, 118, 119, 120, 121, 122]⟩
theorem abc_at : ∀ n : Fin 25, ∃ c, U.bn (abc.extract n.val (n.val + 1)) = [c] ∧ sml c := by
  have : ∀ n : Fin 25, (U.bn (abc.extract n.val (n.val + 1))).length = 1 ∧ (97 ≤ (U.bn (abc.extract n.val (n.val + 1))).headD 0 ∧ (U.bn (abc.extract n.val (n.val + 1))).headD 0 ≤ 122 ∧ (U.bn (abc.extract n.val (n.val + 1))).headD 0 ≠ 109) := by decide +kernel
  intro n
  obtain ⟨h1, h2⟩ := this n
  generalize U.bn (abc.extract n.val (n.val + 1)) = e at h1 h2
  match e, h1 with
  | [x], _ => exact ⟨x, rfl, h2⟩
set_option maxRecDepth 100000 in
set_option maxHeartbeats 8000000 in
theorem plain_walk (s : ByteArray) (w : World) (hN : Nms w) (hs : s.size ≤ maxLen) :
    Calls Tryd.prog 7 #[.string s] w fun e W' => e = .returned (.bool true) ∧ Below w.heap.size w W' := by
  unfold maxLen at hs
  have HW : Hid (∀ W, Below w.heap.size w W → Calls Tryd.prog 8 #[] W fun e W' => e = .returned (.bool true) ∧ Below W.heap.size W W') := fun W hB => works_any W (hN.below hB (Nat.le_refl _))
  clear hN
  by_cases h3 : 300 < s.size
  · go_enter Tryd.func7, Tryd.ntmps7
    go_wp2_with (go_at_call 8; refine (HW.out _ (Below.refl _ _)).mono ?_; rintro e w1 ⟨rfl, B1⟩)
    go_ret
    exact ⟨rfl, B1⟩
  · have h3z : (s.size : Int) ≤ 300 := by omega
    have HABC := hid abc_at
    unfold abc at HABC
    go_enter Tryd.func7, Tryd.ntmps7
    go_wp2_with fail
    go_loop [3, 4] (fun v3 v4 => ∃ (i : Nat) (T : ByteArray), i ≤ s.size ∧ v4 = .int .i64 i ∧ v3 = .string T ∧ T.size = i ∧ Hid (∀ c ∈ U.bn T, sml c)) (fun _ v4 => s.size - (intOf v4).toNat)
    case atStart => exact ⟨0, ⟨#[]⟩, Nat.zero_le _, rfl, rfl, rfl, (fun c hc => by simp [U.bn] at hc)⟩
    case round =>
      obtain ⟨i, T, hi, rfl, rfl, hT, HT⟩ := hrel
      by_cases hlt : i < s.size
      · obtain ⟨n, hn⟩ : ∃ n : Nat, (s[i].toNat) % 25 = n := ⟨_, rfl⟩
        have hnl : n < 25 := by omega
        have hnz : ((s[i].toNat : Nat) : Int) % 25 = (n : Int) := by omega
        have hsb : s[i].toNat < 256 := s[i].toNat_lt
        have hnt : Int.tmod ((s[i].toNat : Nat) : Int) 25 = (n : Int) := by rw [Int.tmod_eq_emod_of_nonneg (by omega)]; exact hnz
        have hw1 : wrap64 ((s[i].toNat : Nat) : Int) = ((s[i].toNat : Nat) : Int) := by simp [wrap64]; omega
        have hw2 : wrap64 ((n : Int) + 1) = (n : Int) + 1 := by simp [wrap64]; omega
        obtain ⟨c, hc1, hc2⟩ := HABC.out ⟨n, hnl⟩
        have HC1 := hid hc1
        have HC2 := hid hc2
        clear hc1 hc2 hn hnz hsb
        obtain ⟨x, hx⟩ : ∃ x : Int, ((s[i].toNat : Nat) : Int) = x := ⟨_, rfl⟩
        rw [hx] at hnt hw1
        go_wp2
        obtain ⟨q, hq⟩ : ∃ q : ByteArray, (⟨#[97, 98, 99, 100, 101, 102, 103, 104, 105, 106, 107, 108, 110, 111, 112, 113, 114, 115, 116, 117, 118, 119, 120, 121, 122]⟩ : ByteArray).extract n (n + 1) = q := ⟨_, rfl⟩
        have hqb : U.bn q = [c] := by rw [← hq]; exact HC1.out
        have hqs : q.size = 1 := by rw [← U.bn_length, hqb]; rfl
        rw [hq]
        refine ⟨⟨i + 1, T ++ q, by omega, by go_num, rfl, by rw [ByteArray.size_append, hqs]; omega, ?_⟩, by simp [intOf]; omega⟩
        intro y hy
        rw [U.bn_append, hqb] at hy
        rcases List.mem_append.1 hy with hy | hy
        · exact HT.out y hy
        · simp at hy
          rw [hy]
          exact HC2.out
      · obtain rfl : i = s.size := by omega
        have sz1 : (T ++ ⟨#[97]⟩ : ByteArray).size ≤ 1300 := by rw [ByteArray.size_append]; show _ + 1 ≤ _; omega
        have sz2 : (T ++ ⟨#[109]⟩ : ByteArray).size ≤ 1300 := by rw [ByteArray.size_append]; show _ + 1 ≤ _; omega
        have sz3 : (T ++ ⟨#[114, 110]⟩ : ByteArray).size ≤ 1300 := by rw [ByteArray.size_append]; show _ + 2 ≤ _; omega
        have HA := hid (fun W => skel_is (t := T) (by omega) (text_sml HT.out) W)
        have H2 := hid (fun W => alike_is (by omega) sz1 (more_sml HT.out) W)
        have H3 := hid (fun W => alike_is sz2 sz3 (em_sml HT.out) W)
        have hse := self_eq T
        clear sz1 sz2 sz3 HABC HT
        go_wp2_with fail
        refine (HA.out _).mono ?_
        rintro e w1 ⟨rfl, B1⟩
        have HB1 := hid B1
        clear B1 HA
        go_wp2_with fail
        refine (H2.out _).mono ?_
        rintro e w2 ⟨rfl, B2⟩
        have HB2 := hid (HB1.out.trans (B2.mono HB1.out.size))
        clear B2 HB1 H2
        go_wp2_with fail
        refine (H3.out _).mono ?_
        rintro e w3 ⟨rfl, B3⟩
        have HB3 := hid (HB2.out.trans (B3.mono HB2.out.size))
        clear B3 HB2 H3
        go_wp2_with fail
        refine (HW.out _ HB3.out).mono ?_
        rintro e w4 ⟨rfl, B4⟩
        go_wp2
        go_ret
        exact ⟨rfl, HB3.out.trans (B4.mono HB3.out.size)⟩
end Go.Proofs.YtpkegjbmnilmdaaDoor.S
namespace Go.Proofs.YtpkegjbmnilmdaaDoor
open Go.ChangeShapes Go.WideShapes Go.ChangeAt Go.RowKit
open Go.ChangeMaps (open_string shut_string)
set_option linter.unusedVariables false

set_option maxRecDepth 100000 in
theorem skelPlain_lifted (os : Os) (started : os.Started) (H : Type) (enc : TypeId × Value → H) :
    ReturnsInHanded {} Tryd.checked os 7 .any (fun w args => (Rows.skelPlainSpec.pre enc Tryd.prog Tryd.f7 [] false w args ∧ laidMetH Tryd.prog laid1 w) ∧ sizedMet enc Tryd.prog Tryd.f7 (OpenSpec.ofChange Rows.skelPlainSpec) false w args)
      (Rows.skelPlainSpec.post enc Tryd.prog Tryd.f7 false true false false) := by
  refine returnsInHanded_of_change_and (C := Tryd.checked) (X := fun w _ => laidMetH Tryd.prog laid1 w) (fun _ _ _ hh h => h.of_heap hh) own started (by kernel_rfl) Tryd.func7
    (ChangeSpec.witness_shaped (enc := enc) (C := Tryd.checked) (os := os) (X := fun w _ => laidMetH Tryd.prog laid1 w) false (World.doorLaid Tryd.prog 4000 os) #[.string ByteArray.empty] 8 rfl (World.shaped_of_RefB (by kernel_rfl) (by kernel_rfl)) (by kernel_rfl) (by kernel_rfl) (by kernel_rfl) (door_met os _)) ?_
  intro W base args ds gs before hval0 hW _ _ hL _
  have hval : ∀ (j : Nat) t v, Tryd.f7.params[j]? = some t → args[j]? = some v → Value.okWide Tryd.prog W .any base t v := hval0
  have hW' := hW
  obtain ⟨p, q, hA0, hV, rfl, hfz, hnd⟩ := hW
  have hA : DataW.TrodAll enc Tryd.prog W 0 (fun _ => true) true Tryd.f7.params.toList args.toList ds p := hA0
  rw [Tryd.params7] at hA hval
  obtain ⟨v0, vs0, d0, ds0, p0, q0, hargs, rfl, rfl, h0, r0⟩ := trodAll_cons hA
  obtain ⟨rfl, rfl, rfl⟩ := trodAll_nil r0
  obtain rfl : args = #[v0] := by cases args; simp_all
  obtain ⟨rfl, rfl⟩ := trodVars_none hV
  obtain ⟨a0, rfl, rfl, rfl, w0⟩ := open_string Tryd.underlying9 (hval 0 9 v0 rfl rfl) h0
  clear hA0 hval0
  refine (S.plain_walk a0 W (of_laid hL) w0).mono fun e W' ⟨he, bel⟩ => ?_
  subst he
  exact ⟨_, rfl, _, _, _, [], _, [], hW', trodAll_mk1 (shut_bool Tryd.underlying4 _), (trodAll_cons_mk (shut_string Tryd.underlying9 w0) trodAll_mk0), rfl, bel.frame _, fun h => by cases h⟩

theorem skelPlain_over : Rows.skelPlainRow.holds Tryd.pinned (OpenSpec.ofChange Rows.skelPlainSpec) :=
  OpenClaim.holds_of_wide 7 Tryd.f7 rfl rfl rfl rfl rfl rfl rfl ⟨rfl, rfl, rfl, rfl, rfl⟩ rfl rfl rfl rfl rfl (by kernel_rfl) Tryd.func7 (by kernel_rfl)
    (of_decide_eq_true (by kernel_rfl)) (by unfold Func.isWrapper; first | (rw [if_pos (by decide +kernel)]; kernel_rfl) | (rw [if_neg (by decide +kernel)]; exact ⟨rfl, rfl⟩))
    (fun os started H enc _ => skelPlain_lifted os started H enc)

/-- The statement: the tied card. -/
theorem skelPlain_holds : Rows.SkelPlainCardSaid :=
  Claim7.holds_tied_plain_at .later [] [.data] true Rows.skelPlainCard.stood.harness false
    skelPlain_over (fun _ h => by cases h) (by kernel_rfl) (fun _ h => by cases h) skelPlain_row_tie rfl ⟨rfl, rfl⟩ (by kernel_rfl) rfl
    (fun f fn hf hfn => by
      obtain rfl : f = 7 := Option.some.inj ((show Tryd.prog.funcNamed Rows.skelPlainRow.func = some 7 by kernel_rfl).symm.trans hf) |>.symm
      obtain rfl : fn = Tryd.f7 := (Option.some.inj (Tryd.func7.symm.trans hfn)).symm
      exact ⟨by kernel_rfl, fun j t ht => by
        rw [Tryd.params7] at ht
        have hm : t ∈ [9] := by simpa using Array.mem_of_getElem? ht
        have hall : ([9].all fun u => !Tryd.prog.wantsStandIn u) = true := by kernel_rfl
        exact (show Tryd.prog.wantsStandIn t = false by simpa using List.all_eq_true.1 hall t hm)⟩)
    (by kernel_rfl)
#print axioms skelPlain_holds
end Go.Proofs.YtpkegjbmnilmdaaDoor
