/- The statement CanonRests: where something goes is told by one text, which goes there; for every input, the listed tables of the library as the text of the program lays them (the card ties them): the call returns true and its arguments read behind it as they read before. -/
import Derived.Test.YtmkompnhefhngaaGreatDoorCards
import Derived.Test.YtmkompnhefhngaaGreatDoorTie
import Derived.Test.YtmkompnhefhngaaGreatDoorZR1
import Derived.WalkKit
import Derived.ShutString
import Derived.ChangeOld
import Derived.Below
import Derived.SevenTiedAt
set_option maxRecDepth 100000
set_option maxHeartbeats 16000000
set_option linter.unusedVariables false
set_option linter.unnecessarySimpa false
namespace Go.Proofs.YtmkompnhefhngaaGreatDoor
open Go.ChangeShapes Go.WideShapes Go.ChangeAt Go.RowKit
open Go.ChangeMaps (open_string shut_string)
theorem canonRests_lifted(os:Os)(started:os.Started)(H:Type)(enc:TypeId×Value→H):
  ReturnsInHanded {} Tryz.checked os 3 .any (fun w args=>(Rows.canonRestsSpec.pre enc Tryz.prog Tryz.f3 [] false w args∧laidMetH Tryz.prog laidL w)∧sizedMet enc Tryz.prog Tryz.f3 (OpenSpec.ofChange Rows.canonRestsSpec) false w args)
   (Rows.canonRestsSpec.post enc Tryz.prog Tryz.f3 false true false false):=by
 refine returns_shaped (X:=fun w _=>laidMetH Tryz.prog laidL w) started (by kernel_rfl) Tryz.func3 (fun _ _ _ hh h=>h.of_heap hh)
  (ChangeSpec.witness_shaped (enc:=enc) (C:=Tryz.checked) (os:=os) (X:=fun w _=>laidMetH Tryz.prog laidL w) false (World.laidAll Tryz.prog os laidL) #[.string ByteArray.empty,.int .u16 0] 8 (World.laidAll_os _ _ _) (door_shaped os _) (by kernel_rfl) (by kernel_rfl) (by kernel_rfl) (door_met os _)) ?_
 intro W base args ds gs before hval0 hW hL hS;have hval:∀(j:Nat) t v,Tryz.f3.params[j]? = some t→args[j]? = some v→Value.okWide Tryz.prog W .any base t v:=hval0;have hW':=hW;obtain⟨p,q,hA0,hV,rfl,hfz,hnd⟩:=hW;have hA:DataW.TrodAll enc Tryz.prog W 0 (fun _=>true) true Tryz.f3.params.toList args.toList ds p:=hA0;rw[Tryz.params3]at hA hval;obtain⟨v0,vs0,d0,ds0,p0,q0,hargs,rfl,rfl,h0,r0⟩:=trodAll_cons hA;obtain⟨v1,vs1,d1,ds1,p1,q1,rfl,rfl,rfl,h1,r1⟩:=trodAll_cons r0;obtain⟨rfl,rfl,rfl⟩:=trodAll_nil r1;obtain rfl:args=#[v0,v1]:=by cases args;simp_all
 obtain⟨rfl,rfl⟩:=trodVars_none hV;obtain⟨a0,rfl,rfl,rfl,w0⟩:=open_string Tryz.underlying9 (hval 0 9 v0 rfl rfl) h0;obtain⟨a1,rfl,rfl,rfl,w1⟩:=open_int Tryz.underlying22 (hval 1 22 v1 rfl rfl) h1;clear hA0 hval0;refine(_root_.Go.Proofs.YtmkompnhefhngaaGreatDoor.Cn.rests_at a0 a1 W (of_url hL hS) w0 w1).mono fun e W' ⟨he,bel⟩=>?_;subst he;exact⟨_,rfl,_,_,_,[],_,[],hW',trodAll_mk1 (shut_bool Tryz.underlying4 _),(trodAll_cons_mk (shut_string Tryz.underlying9 w0) (trodAll_cons_mk (shut_int Tryz.underlying22 w1) trodAll_mk0)),rfl,bel.frame _,fun h=>by cases h⟩
theorem canonRests_closed:joinedFacts Tryz.checked.prog 3 Tryz.f3 Rows.canonRestsSpec Rows.canonRestsRow=true:=by
 unfold joinedFacts;simp only[Bool.and_eq_true]
 (repeat' apply And.intro) <;> as_aux_lemma=>kernel_rfl
theorem canonRests_named:Tryz.checked.prog.funcNamed Rows.canonRestsRow.func=some 3:=by kernel_rfl
theorem canonRests_over:Rows.canonRestsRow.holds Tryz.pinned (OpenSpec.ofChange Rows.canonRestsSpec) :=
 OpenClaim.holds_of_wide 3 Tryz.f3 rfl rfl rfl rfl rfl rfl rfl ⟨rfl,rfl,rfl,rfl,rfl⟩ rfl rfl rfl rfl rfl canonRests_named Tryz.func3 canonRests_closed
  (of_decide_eq_true (by kernel_rfl)) (by unfold Func.isWrapper;first | (rw[if_pos (by decide +kernel)];kernel_rfl) | (rw[if_neg (by decide +kernel)];exact⟨rfl,rfl⟩))
  (fun os started H enc _=>canonRests_lifted os started H enc)
theorem canonRests_wf:Rows.canonRestsRow.wfByText (OpenSpec.ofChange Rows.canonRestsSpec)=true:=by kernel_rfl
theorem canonRests_main:Tryz.pinned.checked.prog.mainIs=some (Rows.canonRestsCard.stood.harness.1,Rows.canonRestsCard.stood.harness.2.toList):=by kernel_rfl
theorem canonRests_looks:Rows.canonRestsCard.stood.looks=Tryz.pinned.checked.prog.looks []:=by kernel_rfl
theorem canonRests_goes:false=Rows.canonRestsRow.goesBy Tryz.pinned.checked.prog:=by kernel_rfl
theorem canonRests_alone:([9,22].all fun u=>!Tryz.prog.wantsStandIn u)=true:=by kernel_rfl
/-- The statement: the tied card. -/
theorem canonRests_holds:Rows.CanonRestsCardSaid :=
 Claim7.holds_tied_plain_at .later [] [.data,.data,.data,.data,.sentinel,.sentinel,.pinned,.pinned] true Rows.canonRestsCard.stood.harness Rows.canonRestsCard.stood.looks
  canonRests_over (fun _ h=>by cases h) canonRests_wf (fun _ h=>by cases h) canonRests_row_tie rfl ⟨rfl,rfl⟩ canonRests_main rfl
  (fun f fn hf hfn=>by
    obtain rfl:f=3:=(Option.some.inj (canonRests_named.symm.trans hf)).symm
    obtain rfl:fn=Tryz.f3:=(Option.some.inj (Tryz.func3.symm.trans hfn)).symm
    exact⟨canonRests_looks,fun j t ht=>by
      rw[Tryz.params3]at ht
      have hm:t∈[9,22]:=by simpa using Array.mem_of_getElem? ht
      exact(show Tryz.prog.wantsStandIn t=false by simpa using List.all_eq_true.1 canonRests_alone t hm)⟩)
  canonRests_goes
#print axioms canonRests_holds
end Go.Proofs.YtmkompnhefhngaaGreatDoor
