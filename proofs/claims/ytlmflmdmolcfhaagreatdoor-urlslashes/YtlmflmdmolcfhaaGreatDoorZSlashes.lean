/- The statement UrlSlashes: a backslash is a slash, where the scheme is special; for every input, the listed tables of the library as the text of the program lays them (the card ties them): the call returns true and its arguments read behind it as they read before. -/
import Derived.Test.YtlmflmdmolcfhaaGreatDoorCards
import Derived.Test.YtlmflmdmolcfhaaGreatDoorTie
import Derived.Test.YtlmflmdmolcfhaaGreatDoorZS1
import Derived.WalkKit
import Derived.ShutString
import Derived.ChangeOld
import Derived.Below
import Derived.SevenTiedAt
namespace Go.Proofs.YtlmflmdmolcfhaaGreatDoor
open Go.ChangeShapes Go.WideShapes Go.ChangeAt Go.RowKit
open Go.ChangeMaps (open_string shut_string)
set_option linter.unusedVariables false

set_option maxRecDepth 100000 in
theorem urlSlashes_lifted (os : Os) (started : os.Started) (H : Type) (enc : TypeId × Value → H) :
    ReturnsInHanded {} Tryz.checked os 6 .any (fun w args => (Rows.urlSlashesSpec.pre enc Tryz.prog Tryz.f6 [] false w args ∧ laidMetH Tryz.prog laidL w) ∧ sizedMet enc Tryz.prog Tryz.f6 (OpenSpec.ofChange Rows.urlSlashesSpec) false w args)
      (Rows.urlSlashesSpec.post enc Tryz.prog Tryz.f6 false true false false) := by
  refine returns_shaped (X := fun w _ => laidMetH Tryz.prog laidL w) started (by kernel_rfl) Tryz.func6 (fun _ _ _ hh h => h.of_heap hh)
    (ChangeSpec.witness_shaped (enc := enc) (C := Tryz.checked) (os := os) (X := fun w _ => laidMetH Tryz.prog laidL w) false (World.laidAll Tryz.prog os laidL) #[.int .u8 0, .string ByteArray.empty, .slice none 0 0] 8 (World.laidAll_os _ _ _) (door_shaped os _) (by kernel_rfl) (by kernel_rfl) (by kernel_rfl) (door_met os _)) ?_
  intro W base args ds gs before hval0 hW hL hS
  have hval : ∀ (j : Nat) t v, Tryz.f6.params[j]? = some t → args[j]? = some v → Value.okWide Tryz.prog W .any base t v := hval0
  have hW' := hW
  obtain ⟨p, q, hA0, hV, rfl, hfz, hnd⟩ := hW
  have hA : DataW.TrodAll enc Tryz.prog W 0 (fun _ => true) true Tryz.f6.params.toList args.toList ds p := hA0
  rw [Tryz.params6] at hA hval
  obtain ⟨v0, vs0, d0, ds0, p0, q0, hargs, rfl, rfl, h0, r0⟩ := trodAll_cons hA
  obtain ⟨v1, vs1, d1, ds1, p1, q1, rfl, rfl, rfl, h1, r1⟩ := trodAll_cons r0
  obtain ⟨v2, vs2, d2, ds2, p2, q2, rfl, rfl, rfl, h2, r2⟩ := trodAll_cons r1
  obtain ⟨rfl, rfl, rfl⟩ := trodAll_nil r2
  obtain rfl : args = #[v0, v1, v2] := by cases args; simp_all
  obtain ⟨rfl, rfl⟩ := trodVars_none hV
  obtain ⟨a0, rfl, rfl, rfl, w0⟩ := open_int Tryz.underlying5 (hval 0 5 v0 rfl rfl) h0
  obtain ⟨a1, rfl, rfl, rfl, w1⟩ := open_string Tryz.underlying9 (hval 1 9 v1 rfl rfl) h1
  obtain ⟨a2, len2, cap2, rfl⟩ := okWide_slice Tryz.underlying42 (hval 2 42 v2 rfl rfl)
  have k2 := h2
  have lt2 : ∀ x ∈ p2, x.block < W.heap.size := by obtain ⟨m, hm⟩ := k2; exact DataW.trod_lt m _ _ _ hm
  obtain ⟨z2, w2⟩ : ∃ zs, U.IsRow .u8 W a2 len2 cap2 zs := by
    obtain ⟨fuel, hf⟩ := h2
    rcases open_ints Tryz.underlying42 Tryz.underlying5 (by kernel_rfl) hf with ⟨hcs, _⟩ | ⟨x, l, c, zs, hcs, _, hl, hm, hz, _, hcell, hwz⟩
    · simp [Value.cells] at hcs
      obtain ⟨rfl, rfl, rfl⟩ := hcs
      exact ⟨[], .inl ⟨rfl, rfl, rfl, rfl⟩⟩
    · simp [Value.cells] at hcs
      obtain ⟨rfl, rfl, rfl⟩ := hcs
      exact ⟨zs, .inr ⟨_, rfl, hl, hm, by simpa using hz, hcell, hwz⟩⟩
  clear hA0 hval0
  refine (_root_.Go.Proofs.YtlmflmdmolcfhaaGreatDoor.Y.slashes_at a0 a1 a2 len2 cap2 z2 W (of_url hL hS) w0 w1 w2).mono fun e W' ⟨he, bel⟩ => ?_
  subst he
  exact ⟨_, rfl, _, _, _, [], _, [], hW', trodAll_mk1 (shut_bool Tryz.underlying4 _), (trodAll_cons_mk (shut_int Tryz.underlying5 w0) (trodAll_cons_mk (shut_string Tryz.underlying9 w1) (trodAll_cons_mk (Below.trod laidOut (by kernel_rfl) (of_decide_eq_true (by kernel_rfl)) k2 bel lt2) trodAll_mk0))), rfl, bel.frame _, fun h => by cases h⟩

set_option maxHeartbeats 40000000 in
theorem urlSlashes_closed : joinedFacts Tryz.checked.prog 6 Tryz.f6 Rows.urlSlashesSpec Rows.urlSlashesRow = true := by
  unfold joinedFacts
  simp only [Bool.and_eq_true]
  (repeat' apply And.intro) <;> as_aux_lemma => kernel_rfl
theorem urlSlashes_named : Tryz.checked.prog.funcNamed Rows.urlSlashesRow.func = some 6 := by kernel_rfl
theorem urlSlashes_over : Rows.urlSlashesRow.holds Tryz.pinned (OpenSpec.ofChange Rows.urlSlashesSpec) :=
  OpenClaim.holds_of_wide 6 Tryz.f6 rfl rfl rfl rfl rfl rfl rfl ⟨rfl, rfl, rfl, rfl, rfl⟩ rfl rfl rfl rfl rfl urlSlashes_named Tryz.func6 urlSlashes_closed
    (of_decide_eq_true (by kernel_rfl)) (by unfold Func.isWrapper; first | (rw [if_pos (by decide +kernel)]; kernel_rfl) | (rw [if_neg (by decide +kernel)]; exact ⟨rfl, rfl⟩))
    (fun os started H enc _ => urlSlashes_lifted os started H enc)

theorem urlSlashes_wf : Rows.urlSlashesRow.wfByText (OpenSpec.ofChange Rows.urlSlashesSpec) = true := by kernel_rfl
theorem urlSlashes_main : Tryz.pinned.checked.prog.mainIs = some (Rows.urlSlashesCard.stood.harness.1, Rows.urlSlashesCard.stood.harness.2.toList) := by kernel_rfl
theorem urlSlashes_looks : Rows.urlSlashesCard.stood.looks = Tryz.pinned.checked.prog.looks [] := by kernel_rfl
theorem urlSlashes_goes : false = Rows.urlSlashesRow.goesBy Tryz.pinned.checked.prog := by kernel_rfl
theorem urlSlashes_alone : ([5, 9, 42].all fun u => !Tryz.prog.wantsStandIn u) = true := by kernel_rfl

/-- The statement: the tied card. -/
theorem urlSlashes_holds : Rows.UrlSlashesCardSaid :=
  Claim7.holds_tied_plain_at .later [] [.data, .data, .data, .data, .sentinel, .sentinel, .pinned, .pinned] true Rows.urlSlashesCard.stood.harness Rows.urlSlashesCard.stood.looks
    urlSlashes_over (fun _ h => by cases h) urlSlashes_wf (fun _ h => by cases h) urlSlashes_row_tie rfl ⟨rfl, rfl⟩ urlSlashes_main rfl
    (fun f fn hf hfn => by
      obtain rfl : f = 6 := (Option.some.inj (urlSlashes_named.symm.trans hf)).symm
      obtain rfl : fn = Tryz.f6 := (Option.some.inj (Tryz.func6.symm.trans hfn)).symm
      exact ⟨urlSlashes_looks, fun j t ht => by
        rw [Tryz.params6] at ht
        have hm : t ∈ [5, 9, 42] := by simpa using Array.mem_of_getElem? ht
        exact (show Tryz.prog.wantsStandIn t = false by simpa using List.all_eq_true.1 urlSlashes_alone t hm)⟩)
    urlSlashes_goes
#print axioms urlSlashes_holds
end Go.Proofs.YtlmflmdmolcfhaaGreatDoor
