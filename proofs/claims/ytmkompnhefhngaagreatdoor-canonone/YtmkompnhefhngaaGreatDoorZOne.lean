/- The statement CanonOne: all spellings of a host are one target; for every input, the listed tables of the library as the text of the program lays them (the card ties them): the call returns true and its arguments read behind it as they read before. -/
import Derived.Test.YtmkompnhefhngaaGreatDoorCards
import Derived.Test.YtmkompnhefhngaaGreatDoorTie
import Derived.Test.YtmkompnhefhngaaGreatDoorZO1
import Derived.WalkKit
import Derived.ShutString
import Derived.ChangeOld
import Derived.Below
import Derived.SevenTiedAt
set_option maxRecDepth 100000
set_option maxHeartbeats 16000000
set_option linter.unusedVariables false
set_option linter.unnecessarySimpa false
namespace Go.Proofs.YtmkompnhefhngaaGreatDoor
open Go.ChangeShapes Go.WideShapes Go.ChangeAt Go.RowKit
open Go.ChangeMaps (open_string shut_string)
theorem canonOne_lifted(os:Os)(started:os.Started)(H:Type)(enc:TypeId×Value→H):
  ReturnsInHanded {} Tryz.checked os 4 .any (fun w args=>(Rows.canonOneSpec.pre enc Tryz.prog Tryz.f4 [] false w args∧laidMetH Tryz.prog laidL w)∧sizedMet enc Tryz.prog Tryz.f4 (OpenSpec.ofChange Rows.canonOneSpec) false w args)
   (Rows.canonOneSpec.post enc Tryz.prog Tryz.f4 false true false false):=by
 refine returns_shaped (X:=fun w _=>laidMetH Tryz.prog laidL w) started (by kernel_rfl) Tryz.func4 (fun _ _ _ hh h=>h.of_heap hh)
  (ChangeSpec.witness_shaped (enc:=enc) (C:=Tryz.checked) (os:=os) (X:=fun w _=>laidMetH Tryz.prog laidL w) false (World.laidAll Tryz.prog os laidL) #[.string ByteArray.empty,.slice none 0 0,.bool false,.string ByteArray.empty] 8 (World.laidAll_os _ _ _) (door_shaped os _) (by kernel_rfl) (by kernel_rfl) (by kernel_rfl) (door_met os _)) ?_
 intro W base args ds gs before hval0 hW hL hS;have hval:∀(j:Nat) t v,Tryz.f4.params[j]? = some t→args[j]? = some v→Value.okWide Tryz.prog W .any base t v:=hval0;have hW':=hW;obtain⟨p,q,hA0,hV,rfl,hfz,hnd⟩:=hW;have hA:DataW.TrodAll enc Tryz.prog W 0 (fun _=>true) true Tryz.f4.params.toList args.toList ds p:=hA0;rw[Tryz.params4]at hA hval;obtain⟨v0,vs0,d0,ds0,p0,q0,hargs,rfl,rfl,h0,r0⟩:=trodAll_cons hA;obtain⟨v1,vs1,d1,ds1,p1,q1,rfl,rfl,rfl,h1,r1⟩:=trodAll_cons r0;obtain⟨v2,vs2,d2,ds2,p2,q2,rfl,rfl,rfl,h2,r2⟩:=trodAll_cons r1;obtain⟨v3,vs3,d3,ds3,p3,q3,rfl,rfl,rfl,h3,r3⟩:=trodAll_cons r2;obtain⟨rfl,rfl,rfl⟩:=trodAll_nil r3;obtain rfl:args=#[v0,v1,v2,v3]:=by cases args;simp_all
 obtain⟨rfl,rfl⟩:=trodVars_none hV;obtain⟨a0,rfl,rfl,rfl,w0⟩:=open_string Tryz.underlying9 (hval 0 9 v0 rfl rfl) h0;obtain⟨a1,len1,cap1,rfl⟩:=okWide_slice Tryz.underlying36 (hval 1 36 v1 rfl rfl);have k1:=h1;have lt1:∀ x∈p1,x.block<W.heap.size:=by obtain⟨m,hm⟩:=k1;exact DataW.trod_lt m _ _ _ hm
 obtain⟨z1,w1⟩:∃ zs,U.IsRow .u8 W a1 len1 cap1 zs:=by
  obtain⟨fuel,hf⟩:=h1;rcases open_ints Tryz.underlying36 Tryz.underlying5 (by kernel_rfl) hf with⟨hcs,_⟩ | ⟨x,l,c,zs,hcs,_,hl,hm,hz,_,hcell,hwz⟩
  ·simp[Value.cells]at hcs;obtain⟨rfl,rfl,rfl⟩:=hcs;exact⟨[],.inl ⟨rfl,rfl,rfl,rfl⟩⟩
  ·simp[Value.cells]at hcs;obtain⟨rfl,rfl,rfl⟩:=hcs;exact⟨zs,.inr ⟨_,rfl,hl,hm,by simpa using hz,hcell,hwz⟩⟩
 obtain⟨a2,rfl,rfl,rfl⟩:=open_bool Tryz.underlying4 (hval 2 4 v2 rfl rfl) h2;obtain⟨a3,rfl,rfl,rfl,w3⟩:=open_string Tryz.underlying9 (hval 3 9 v3 rfl rfl) h3;clear hA0 hval0;refine(_root_.Go.Proofs.YtmkompnhefhngaaGreatDoor.Cn.one_at a0 a1 len1 cap1 z1 a2 a3 W (of_url hL hS) w0 w1 w3).mono fun e W' ⟨he,bel⟩=>?_;subst he;exact⟨_,rfl,_,_,_,[],_,[],hW',trodAll_mk1 (shut_bool Tryz.underlying4 _),(trodAll_cons_mk (shut_string Tryz.underlying9 w0) (trodAll_cons_mk (Below.trod laidOut (by kernel_rfl) (of_decide_eq_true (by kernel_rfl)) k1 bel lt1) (trodAll_cons_mk (shut_bool Tryz.underlying4 _) (trodAll_cons_mk (shut_string Tryz.underlying9 w3) trodAll_mk0)))),rfl,bel.frame _,fun h=>by cases h⟩
theorem canonOne_closed:joinedFacts Tryz.checked.prog 4 Tryz.f4 Rows.canonOneSpec Rows.canonOneRow=true:=by
 unfold joinedFacts;simp only[Bool.and_eq_true]
 (repeat' apply And.intro) <;> as_aux_lemma=>kernel_rfl
theorem canonOne_named:Tryz.checked.prog.funcNamed Rows.canonOneRow.func=some 4:=by kernel_rfl
theorem canonOne_over:Rows.canonOneRow.holds Tryz.pinned (OpenSpec.ofChange Rows.canonOneSpec) :=
 OpenClaim.holds_of_wide 4 Tryz.f4 rfl rfl rfl rfl rfl rfl rfl ⟨rfl,rfl,rfl,rfl,rfl⟩ rfl rfl rfl rfl rfl canonOne_named Tryz.func4 canonOne_closed
  (of_decide_eq_true (by kernel_rfl)) (by unfold Func.isWrapper;first | (rw[if_pos (by decide +kernel)];kernel_rfl) | (rw[if_neg (by decide +kernel)];exact⟨rfl,rfl⟩))
  (fun os started H enc _=>canonOne_lifted os started H enc)
theorem canonOne_wf:Rows.canonOneRow.wfByText (OpenSpec.ofChange Rows.canonOneSpec)=true:=by kernel_rfl
theorem canonOne_main:Tryz.pinned.checked.prog.mainIs=some (Rows.canonOneCard.stood.harness.1,Rows.canonOneCard.stood.harness.2.toList):=by kernel_rfl
theorem canonOne_looks:Rows.canonOneCard.stood.looks=Tryz.pinned.checked.prog.looks []:=by kernel_rfl
theorem canonOne_goes:false=Rows.canonOneRow.goesBy Tryz.pinned.checked.prog:=by kernel_rfl
theorem canonOne_alone:([9,36,4,9].all fun u=>!Tryz.prog.wantsStandIn u)=true:=by kernel_rfl
/-- The statement: the tied card. -/
theorem canonOne_holds:Rows.CanonOneCardSaid :=
 Claim7.holds_tied_plain_at .later [] [.data,.data,.data,.data,.sentinel,.sentinel,.pinned,.pinned] true Rows.canonOneCard.stood.harness Rows.canonOneCard.stood.looks
  canonOne_over (fun _ h=>by cases h) canonOne_wf (fun _ h=>by cases h) canonOne_row_tie rfl ⟨rfl,rfl⟩ canonOne_main rfl
  (fun f fn hf hfn=>by
    obtain rfl:f=4:=(Option.some.inj (canonOne_named.symm.trans hf)).symm
    obtain rfl:fn=Tryz.f4:=(Option.some.inj (Tryz.func4.symm.trans hfn)).symm
    exact⟨canonOne_looks,fun j t ht=>by
      rw[Tryz.params4]at ht
      have hm:t∈[9,36,4,9]:=by simpa using Array.mem_of_getElem? ht
      exact(show Tryz.prog.wantsStandIn t=false by simpa using List.all_eq_true.1 canonOne_alone t hm)⟩)
  canonOne_goes
#print axioms canonOne_holds
end Go.Proofs.YtmkompnhefhngaaGreatDoor
