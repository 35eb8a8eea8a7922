/- The statement UrlRests: a URL's text is read as that URL, and it rests so; for every input, the listed tables of the library as the text of the program lays them (the card ties them): the call returns true and its arguments read behind it as they read before. -/
import Derived.Test.YtlmflmdmolcfhaaGreatDoorCards
import Derived.Test.YtlmflmdmolcfhaaGreatDoorTie
import Derived.Test.YtlmflmdmolcfhaaGreatDoorZR1
import Derived.WalkKit
import Derived.ShutString
import Derived.ChangeOld
import Derived.Below
import Derived.SevenTiedAt
namespace Go.Proofs.YtlmflmdmolcfhaaGreatDoor
open Go.ChangeShapes Go.WideShapes Go.ChangeAt Go.RowKit
open Go.ChangeMaps (open_string shut_string)
set_option linter.unusedVariables false

set_option maxRecDepth 100000 in
theorem urlRests_lifted (os : Os) (started : os.Started) (H : Type) (enc : TypeId × Value → H) :
    ReturnsInHanded {} Tryz.checked os 4 .any (fun w args => (Rows.urlRestsSpec.pre enc Tryz.prog Tryz.f4 [] false w args ∧ laidMetH Tryz.prog laidL w) ∧ sizedMet enc Tryz.prog Tryz.f4 (OpenSpec.ofChange Rows.urlRestsSpec) false w args)
      (Rows.urlRestsSpec.post enc Tryz.prog Tryz.f4 false true false false) := by
  refine returns_shaped (X := fun w _ => laidMetH Tryz.prog laidL w) started (by kernel_rfl) Tryz.func4 (fun _ _ _ hh h => h.of_heap hh)
    (ChangeSpec.witness_shaped (enc := enc) (C := Tryz.checked) (os := os) (X := fun w _ => laidMetH Tryz.prog laidL w) false (World.laidAll Tryz.prog os laidL) #[.string ByteArray.empty] 8 (World.laidAll_os _ _ _) (door_shaped os _) (by kernel_rfl) (by kernel_rfl) (by kernel_rfl) (door_met os _)) ?_
  intro W base args ds gs before hval0 hW hL hS
  have hval : ∀ (j : Nat) t v, Tryz.f4.params[j]? = some t → args[j]? = some v → Value.okWide Tryz.prog W .any base t v := hval0
  have hW' := hW
  obtain ⟨p, q, hA0, hV, rfl, hfz, hnd⟩ := hW
  have hA : DataW.TrodAll enc Tryz.prog W 0 (fun _ => true) true Tryz.f4.params.toList args.toList ds p := hA0
  rw [Tryz.params4] at hA hval
  obtain ⟨v0, vs0, d0, ds0, p0, q0, hargs, rfl, rfl, h0, r0⟩ := trodAll_cons hA
  obtain ⟨rfl, rfl, rfl⟩ := trodAll_nil r0
  obtain rfl : args = #[v0] := by cases args; simp_all
  obtain ⟨rfl, rfl⟩ := trodVars_none hV
  obtain ⟨a0, rfl, rfl, rfl, w0⟩ := open_string Tryz.underlying9 (hval 0 9 v0 rfl rfl) h0
  clear hA0 hval0
  refine (_root_.Go.Proofs.YtlmflmdmolcfhaaGreatDoor.Y.rests_at a0 W (of_url hL hS) w0).mono fun e W' ⟨he, bel⟩ => ?_
  subst he
  exact ⟨_, rfl, _, _, _, [], _, [], hW', trodAll_mk1 (shut_bool Tryz.underlying4 _), (trodAll_cons_mk (shut_string Tryz.underlying9 w0) trodAll_mk0), rfl, bel.frame _, fun h => by cases h⟩

set_option maxHeartbeats 40000000 in
theorem urlRests_closed : joinedFacts Tryz.checked.prog 4 Tryz.f4 Rows.urlRestsSpec Rows.urlRestsRow = true := by
  unfold joinedFacts
  simp only [Bool.and_eq_true]
  (repeat' apply And.intro) <;> as_aux_lemma => kernel_rfl
theorem urlRests_named : Tryz.checked.prog.funcNamed Rows.urlRestsRow.func = some 4 := by kernel_rfl
theorem urlRests_over : Rows.urlRestsRow.holds Tryz.pinned (OpenSpec.ofChange Rows.urlRestsSpec) :=
  OpenClaim.holds_of_wide 4 Tryz.f4 rfl rfl rfl rfl rfl rfl rfl ⟨rfl, rfl, rfl, rfl, rfl⟩ rfl rfl rfl rfl rfl urlRests_named Tryz.func4 urlRests_closed
    (of_decide_eq_true (by kernel_rfl)) (by unfold Func.isWrapper; first | (rw [if_pos (by decide +kernel)]; kernel_rfl) | (rw [if_neg (by decide +kernel)]; exact ⟨rfl, rfl⟩))
    (fun os started H enc _ => urlRests_lifted os started H enc)

theorem urlRests_wf : Rows.urlRestsRow.wfByText (OpenSpec.ofChange Rows.urlRestsSpec) = true := by kernel_rfl
theorem urlRests_main : Tryz.pinned.checked.prog.mainIs = some (Rows.urlRestsCard.stood.harness.1, Rows.urlRestsCard.stood.harness.2.toList) := by kernel_rfl
theorem urlRests_looks : Rows.urlRestsCard.stood.looks = Tryz.pinned.checked.prog.looks [] := by kernel_rfl
theorem urlRests_goes : false = Rows.urlRestsRow.goesBy Tryz.pinned.checked.prog := by kernel_rfl
theorem urlRests_alone : ([9].all fun u => !Tryz.prog.wantsStandIn u) = true := by kernel_rfl

/-- The statement: the tied card. -/
theorem urlRests_holds : Rows.UrlRestsCardSaid :=
  Claim7.holds_tied_plain_at .later [] [.data, .data, .data, .data, .sentinel, .sentinel, .pinned, .pinned] true Rows.urlRestsCard.stood.harness Rows.urlRestsCard.stood.looks
    urlRests_over (fun _ h => by cases h) urlRests_wf (fun _ h => by cases h) urlRests_row_tie rfl ⟨rfl, rfl⟩ urlRests_main rfl
    (fun f fn hf hfn => by
      obtain rfl : f = 4 := (Option.some.inj (urlRests_named.symm.trans hf)).symm
      obtain rfl : fn = Tryz.f4 := (Option.some.inj (Tryz.func4.symm.trans hfn)).symm
      exact ⟨urlRests_looks, fun j t ht => by
        rw [Tryz.params4] at ht
        have hm : t ∈ [9] := by simpa using Array.mem_of_getElem? ht
        exact (show Tryz.prog.wantsStandIn t = false by simpa using List.all_eq_true.1 urlRests_alone t hm)⟩)
    urlRests_goes
#print axioms urlRests_holds
end Go.Proofs.YtlmflmdmolcfhaaGreatDoor
