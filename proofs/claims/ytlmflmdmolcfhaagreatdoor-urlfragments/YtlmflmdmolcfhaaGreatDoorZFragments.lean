/- The statement UrlFragments: a fragment, or a query, behind a text changes that part alone; for every input, the listed tables of the library as the text of the program lays them (the card ties them): the call returns true and its arguments read behind it as they read before. -/
import Derived.Test.YtlmflmdmolcfhaaGreatDoorCards
import Derived.Test.YtlmflmdmolcfhaaGreatDoorTie
import Derived.Test.YtlmflmdmolcfhaaGreatDoorZF1
import Derived.WalkKit
import Derived.ShutString
import Derived.ChangeOld
import Derived.Below
import Derived.SevenTiedAt
namespace Go.Proofs.YtlmflmdmolcfhaaGreatDoor
open Go.ChangeShapes Go.WideShapes Go.ChangeAt Go.RowKit
open Go.ChangeMaps (open_string shut_string)
set_option linter.unusedVariables false

set_option maxRecDepth 100000 in
theorem urlFragments_lifted (os : Os) (started : os.Started) (H : Type) (enc : TypeId × Value → H) :
    ReturnsInHanded {} Tryz.checked os 8 .any (fun w args => (Rows.urlFragmentsSpec.pre enc Tryz.prog Tryz.f8 [] false w args ∧ laidMetH Tryz.prog laidL w) ∧ sizedMet enc Tryz.prog Tryz.f8 (OpenSpec.ofChange Rows.urlFragmentsSpec) false w args)
      (Rows.urlFragmentsSpec.post enc Tryz.prog Tryz.f8 false true false false) := by
  refine returns_shaped (X := fun w _ => laidMetH Tryz.prog laidL w) started (by kernel_rfl) Tryz.func8 (fun _ _ _ hh h => h.of_heap hh)
    (ChangeSpec.witness_shaped (enc := enc) (C := Tryz.checked) (os := os) (X := fun w _ => laidMetH Tryz.prog laidL w) false (World.laidAll Tryz.prog os laidL) #[.string ByteArray.empty, .string ByteArray.empty, .string ByteArray.empty] 8 (World.laidAll_os _ _ _) (door_shaped os _) (by kernel_rfl) (by kernel_rfl) (by kernel_rfl) (door_met os _)) ?_
  intro W base args ds gs before hval0 hW hL hS
  have hval : ∀ (j : Nat) t v, Tryz.f8.params[j]? = some t → args[j]? = some v → Value.okWide Tryz.prog W .any base t v := hval0
  have hW' := hW
  obtain ⟨p, q, hA0, hV, rfl, hfz, hnd⟩ := hW
  have hA : DataW.TrodAll enc Tryz.prog W 0 (fun _ => true) true Tryz.f8.params.toList args.toList ds p := hA0
  rw [Tryz.params8] at hA hval
  obtain ⟨v0, vs0, d0, ds0, p0, q0, hargs, rfl, rfl, h0, r0⟩ := trodAll_cons hA
  obtain ⟨v1, vs1, d1, ds1, p1, q1, rfl, rfl, rfl, h1, r1⟩ := trodAll_cons r0
  obtain ⟨v2, vs2, d2, ds2, p2, q2, rfl, rfl, rfl, h2, r2⟩ := trodAll_cons r1
  obtain ⟨rfl, rfl, rfl⟩ := trodAll_nil r2
  obtain rfl : args = #[v0, v1, v2] := by cases args; simp_all
  obtain ⟨rfl, rfl⟩ := trodVars_none hV
  obtain ⟨a0, rfl, rfl, rfl, w0⟩ := open_string Tryz.underlying9 (hval 0 9 v0 rfl rfl) h0
  obtain ⟨a1, rfl, rfl, rfl, w1⟩ := open_string Tryz.underlying9 (hval 1 9 v1 rfl rfl) h1
  obtain ⟨a2, rfl, rfl, rfl, w2⟩ := open_string Tryz.underlying9 (hval 2 9 v2 rfl rfl) h2
  clear hA0 hval0
  refine (_root_.Go.Proofs.YtlmflmdmolcfhaaGreatDoor.Y.fragments_at a0 a1 a2 W (of_url hL hS) w0 w1 w2).mono fun e W' ⟨he, bel⟩ => ?_
  subst he
  exact ⟨_, rfl, _, _, _, [], _, [], hW', trodAll_mk1 (shut_bool Tryz.underlying4 _), (trodAll_cons_mk (shut_string Tryz.underlying9 w0) (trodAll_cons_mk (shut_string Tryz.underlying9 w1) (trodAll_cons_mk (shut_string Tryz.underlying9 w2) trodAll_mk0))), rfl, bel.frame _, fun h => by cases h⟩

set_option maxHeartbeats 40000000 in
theorem urlFragments_closed : joinedFacts Tryz.checked.prog 8 Tryz.f8 Rows.urlFragmentsSpec Rows.urlFragmentsRow = true := by
  unfold joinedFacts
  simp only [Bool.and_eq_true]
  (repeat' apply And.intro) <;> as_aux_lemma => kernel_rfl
theorem urlFragments_named : Tryz.checked.prog.funcNamed Rows.urlFragmentsRow.func = some 8 := by kernel_rfl
theorem urlFragments_over : Rows.urlFragmentsRow.holds Tryz.pinned (OpenSpec.ofChange Rows.urlFragmentsSpec) :=
  OpenClaim.holds_of_wide 8 Tryz.f8 rfl rfl rfl rfl rfl rfl rfl ⟨rfl, rfl, rfl, rfl, rfl⟩ rfl rfl rfl rfl rfl urlFragments_named Tryz.func8 urlFragments_closed
    (of_decide_eq_true (by kernel_rfl)) (by unfold Func.isWrapper; first | (rw [if_pos (by decide +kernel)]; kernel_rfl) | (rw [if_neg (by decide +kernel)]; exact ⟨rfl, rfl⟩))
    (fun os started H enc _ => urlFragments_lifted os started H enc)

theorem urlFragments_wf : Rows.urlFragmentsRow.wfByText (OpenSpec.ofChange Rows.urlFragmentsSpec) = true := by kernel_rfl
theorem urlFragments_main : Tryz.pinned.checked.prog.mainIs = some (Rows.urlFragmentsCard.stood.harness.1, Rows.urlFragmentsCard.stood.harness.2.toList) := by kernel_rfl
theorem urlFragments_looks : Rows.urlFragmentsCard.stood.looks = Tryz.pinned.checked.prog.looks [] := by kernel_rfl
theorem urlFragments_goes : false = Rows.urlFragmentsRow.goesBy Tryz.pinned.checked.prog := by kernel_rfl
theorem urlFragments_alone : ([9, 9, 9].all fun u => !Tryz.prog.wantsStandIn u) = true := by kernel_rfl

/-- The statement: the tied card. -/
theorem urlFragments_holds : Rows.UrlFragmentsCardSaid :=
  Claim7.holds_tied_plain_at .later [] [.data, .data, .data, .data, .sentinel, .sentinel, .pinned, .pinned] true Rows.urlFragmentsCard.stood.harness Rows.urlFragmentsCard.stood.looks
    urlFragments_over (fun _ h => by cases h) urlFragments_wf (fun _ h => by cases h) urlFragments_row_tie rfl ⟨rfl, rfl⟩ urlFragments_main rfl
    (fun f fn hf hfn => by
      obtain rfl : f = 8 := (Option.some.inj (urlFragments_named.symm.trans hf)).symm
      obtain rfl : fn = Tryz.f8 := (Option.some.inj (Tryz.func8.symm.trans hfn)).symm
      exact ⟨urlFragments_looks, fun j t ht => by
        rw [Tryz.params8] at ht
        have hm : t ∈ [9, 9, 9] := by simpa using Array.mem_of_getElem? ht
        exact (show Tryz.prog.wantsStandIn t = false by simpa using List.all_eq_true.1 urlFragments_alone t hm)⟩)
    urlFragments_goes
#print axioms urlFragments_holds
end Go.Proofs.YtlmflmdmolcfhaaGreatDoor
