/- The statement UrlBlanks: blanks around, tabs and ends of lines within, do not matter; for every input, the listed tables of the library as the text of the program lays them (the card ties them): the call returns true and its arguments read behind it as they read before. -/
import Derived.Test.YtlmflmdmolcfhaaGreatDoorCards
import Derived.Test.YtlmflmdmolcfhaaGreatDoorTie
import Derived.Test.YtlmflmdmolcfhaaGreatDoorZB1
import Derived.WalkKit
import Derived.ShutString
import Derived.ChangeOld
import Derived.Below
import Derived.SevenTiedAt
namespace Go.Proofs.YtlmflmdmolcfhaaGreatDoor
open Go.ChangeShapes Go.WideShapes Go.ChangeAt Go.RowKit
open Go.ChangeMaps (open_string shut_string)
set_option linter.unusedVariables false

set_option maxRecDepth 100000 in
theorem urlBlanks_lifted (os : Os) (started : os.Started) (H : Type) (enc : TypeId × Value → H) :
    ReturnsInHanded {} Tryz.checked os 5 .any (fun w args => (Rows.urlBlanksSpec.pre enc Tryz.prog Tryz.f5 [] false w args ∧ laidMetH Tryz.prog laidL w) ∧ sizedMet enc Tryz.prog Tryz.f5 (OpenSpec.ofChange Rows.urlBlanksSpec) false w args)
      (Rows.urlBlanksSpec.post enc Tryz.prog Tryz.f5 false true false false) := by
  refine returns_shaped (X := fun w _ => laidMetH Tryz.prog laidL w) started (by kernel_rfl) Tryz.func5 (fun _ _ _ hh h => h.of_heap hh)
    (ChangeSpec.witness_shaped (enc := enc) (C := Tryz.checked) (os := os) (X := fun w _ => laidMetH Tryz.prog laidL w) false (World.laidAll Tryz.prog os laidL) #[.string ByteArray.empty, .slice none 0 0, .int .u8 0, .int .u8 0] 8 (World.laidAll_os _ _ _) (door_shaped os _) (by kernel_rfl) (by kernel_rfl) (by kernel_rfl) (door_met os _)) ?_
  intro W base args ds gs before hval0 hW hL hS
  have hval : ∀ (j : Nat) t v, Tryz.f5.params[j]? = some t → args[j]? = some v → Value.okWide Tryz.prog W .any base t v := hval0
  have hW' := hW
  obtain ⟨p, q, hA0, hV, rfl, hfz, hnd⟩ := hW
  have hA : DataW.TrodAll enc Tryz.prog W 0 (fun _ => true) true Tryz.f5.params.toList args.toList ds p := hA0
  rw [Tryz.params5] at hA hval
  obtain ⟨v0, vs0, d0, ds0, p0, q0, hargs, rfl, rfl, h0, r0⟩ := trodAll_cons hA
  obtain ⟨v1, vs1, d1, ds1, p1, q1, rfl, rfl, rfl, h1, r1⟩ := trodAll_cons r0
  obtain ⟨v2, vs2, d2, ds2, p2, q2, rfl, rfl, rfl, h2, r2⟩ := trodAll_cons r1
  obtain ⟨v3, vs3, d3, ds3, p3, q3, rfl, rfl, rfl, h3, r3⟩ := trodAll_cons r2
  obtain ⟨rfl, rfl, rfl⟩ := trodAll_nil r3
  obtain rfl : args = #[v0, v1, v2, v3] := by cases args; simp_all
  obtain ⟨rfl, rfl⟩ := trodVars_none hV
  obtain ⟨a0, rfl, rfl, rfl, w0⟩ := open_string Tryz.underlying9 (hval 0 9 v0 rfl rfl) h0
  obtain ⟨a1, len1, cap1, rfl⟩ := okWide_slice Tryz.underlying42 (hval 1 42 v1 rfl rfl)
  have k1 := h1
  have lt1 : ∀ x ∈ p1, x.block < W.heap.size := by obtain ⟨m, hm⟩ := k1; exact DataW.trod_lt m _ _ _ hm
  obtain ⟨z1, w1⟩ : ∃ zs, U.IsRow .u8 W a1 len1 cap1 zs := by
    obtain ⟨fuel, hf⟩ := h1
    rcases open_ints Tryz.underlying42 Tryz.underlying5 (by kernel_rfl) hf with ⟨hcs, _⟩ | ⟨x, l, c, zs, hcs, _, hl, hm, hz, _, hcell, hwz⟩
    · simp [Value.cells] at hcs
      obtain ⟨rfl, rfl, rfl⟩ := hcs
      exact ⟨[], .inl ⟨rfl, rfl, rfl, rfl⟩⟩
    · simp [Value.cells] at hcs
      obtain ⟨rfl, rfl, rfl⟩ := hcs
      exact ⟨zs, .inr ⟨_, rfl, hl, hm, by simpa using hz, hcell, hwz⟩⟩
  obtain ⟨a2, rfl, rfl, rfl, w2⟩ := open_int Tryz.underlying5 (hval 2 5 v2 rfl rfl) h2
  obtain ⟨a3, rfl, rfl, rfl, w3⟩ := open_int Tryz.underlying5 (hval 3 5 v3 rfl rfl) h3
  clear hA0 hval0
  refine (_root_.Go.Proofs.YtlmflmdmolcfhaaGreatDoor.Y.blanks_at a0 a1 len1 cap1 z1 a2 a3 W (of_url hL hS) w0 w1 w2 w3).mono fun e W' ⟨he, bel⟩ => ?_
  subst he
  exact ⟨_, rfl, _, _, _, [], _, [], hW', trodAll_mk1 (shut_bool Tryz.underlying4 _), (trodAll_cons_mk (shut_string Tryz.underlying9 w0) (trodAll_cons_mk (Below.trod laidOut (by kernel_rfl) (of_decide_eq_true (by kernel_rfl)) k1 bel lt1) (trodAll_cons_mk (shut_int Tryz.underlying5 w2) (trodAll_cons_mk (shut_int Tryz.underlying5 w3) trodAll_mk0)))), rfl, bel.frame _, fun h => by cases h⟩

set_option maxHeartbeats 40000000 in
theorem urlBlanks_closed : joinedFacts Tryz.checked.prog 5 Tryz.f5 Rows.urlBlanksSpec Rows.urlBlanksRow = true := by
  unfold joinedFacts
  simp only [Bool.and_eq_true]
  (repeat' apply And.intro) <;> as_aux_lemma => kernel_rfl
theorem urlBlanks_named : Tryz.checked.prog.funcNamed Rows.urlBlanksRow.func = some 5 := by kernel_rfl
theorem urlBlanks_over : Rows.urlBlanksRow.holds Tryz.pinned (OpenSpec.ofChange Rows.urlBlanksSpec) :=
  OpenClaim.holds_of_wide 5 Tryz.f5 rfl rfl rfl rfl rfl rfl rfl ⟨rfl, rfl, rfl, rfl, rfl⟩ rfl rfl rfl rfl rfl urlBlanks_named Tryz.func5 urlBlanks_closed
    (of_decide_eq_true (by kernel_rfl)) (by unfold Func.isWrapper; first | (rw [if_pos (by decide +kernel)]; kernel_rfl) | (rw [if_neg (by decide +kernel)]; exact ⟨rfl, rfl⟩))
    (fun os started H enc _ => urlBlanks_lifted os started H enc)

theorem urlBlanks_wf : Rows.urlBlanksRow.wfByText (OpenSpec.ofChange Rows.urlBlanksSpec) = true := by kernel_rfl
theorem urlBlanks_main : Tryz.pinned.checked.prog.mainIs = some (Rows.urlBlanksCard.stood.harness.1, Rows.urlBlanksCard.stood.harness.2.toList) := by kernel_rfl
theorem urlBlanks_looks : Rows.urlBlanksCard.stood.looks = Tryz.pinned.checked.prog.looks [] := by kernel_rfl
theorem urlBlanks_goes : false = Rows.urlBlanksRow.goesBy Tryz.pinned.checked.prog := by kernel_rfl
theorem urlBlanks_alone : ([9, 42, 5, 5].all fun u => !Tryz.prog.wantsStandIn u) = true := by kernel_rfl

/-- The statement: the tied card. -/
theorem urlBlanks_holds : Rows.UrlBlanksCardSaid :=
  Claim7.holds_tied_plain_at .later [] [.data, .data, .data, .data, .sentinel, .sentinel, .pinned, .pinned] true Rows.urlBlanksCard.stood.harness Rows.urlBlanksCard.stood.looks
    urlBlanks_over (fun _ h => by cases h) urlBlanks_wf (fun _ h => by cases h) urlBlanks_row_tie rfl ⟨rfl, rfl⟩ urlBlanks_main rfl
    (fun f fn hf hfn => by
      obtain rfl : f = 5 := (Option.some.inj (urlBlanks_named.symm.trans hf)).symm
      obtain rfl : fn = Tryz.f5 := (Option.some.inj (Tryz.func5.symm.trans hfn)).symm
      exact ⟨urlBlanks_looks, fun j t ht => by
        rw [Tryz.params5] at ht
        have hm : t ∈ [9, 42, 5, 5] := by simpa using Array.mem_of_getElem? ht
        exact (show Tryz.prog.wantsStandIn t = false by simpa using List.all_eq_true.1 urlBlanks_alone t hm)⟩)
    urlBlanks_goes
#print axioms urlBlanks_holds
end Go.Proofs.YtlmflmdmolcfhaaGreatDoor
