/- Texts one behind the other: XH WF WP. -/
import Derived.Test.YtkekkbciiohbkaaGreatDoorZ33
import Derived.Test.YtkekkbciiohbkaaGreatDoorZ4
import Derived.Laws.Rows
import Derived.Laws.Tables
import Derived.Laws.ResultCell
import Derived.Lib.IndexMore
set_option maxRecDepth 100000
set_option maxHeartbeats 16000000
set_option linter.unusedVariables false
set_option linter.unnecessarySimpa false
namespace Go.Proofs.YtkekkbciiohbkaaGreatDoor.X
open Go.RowKit
open Go.Proofs.YtkekkbciiohbkaaGreatDoor.F (hx bw vl bn aa aC av aq ar hid aj ab ah aR aK)
theorem pX{l:List Int}{i:Nat}(h:i+1<l.length):cc (l.take (i+2))=cc (l.take (i+1))+(if l[i]?.getD 0=58∧l[i+1]?.getD 0=58 then 1 else 0):=by
 have e:l.take (i+2)=l.take (i+1)++[l[i+1]?.getD 0]:=take_one l (i+1) h;rw[e,dr];have e1:cc [l[i+1]?.getD 0]=0:=rfl
 have e2:(l.take (i+1)).getLast? = some (l[i]?.getD 0):=by
  rw[List.getLast?_take,if_neg (by omega),List.getElem?_eq_getElem (by omega)];simp;rw[List.getElem?_eq_getElem (by omega)];rfl
 rw[e1,e2];simp
theorem tv(l:List Int)(k:Nat):cc (l.take k)≤cc l:=by
 have h:=dr (l.take k) (l.drop k);rw[List.take_append_drop]at h;omega
theorem DJ{l:List Int}{p:Nat}(hp:p+1<l.length)(h1:l[p]?.getD 0=58)(h2:l[p+1]?.getD 0=58)(hc:cc (l.take (p+1))=0):cp l=p:=by
 have e:l=l.take p++58::58::l.drop (p+2):=by
  have a:=List.take_append_drop p l
  have b:l.drop p=58::58::l.drop (p+2):=by
   rw[List.drop_eq_getElem_cons (by omega),List.drop_eq_getElem_cons (by omega)];rw[List.getElem?_eq_getElem (by omega)]at h1 h2;simp at h1 h2
   rw[h1,h2]
  rw[b]at a;exact a.symm
 have h3:l.take (p+1)=l.take p++[58]:=by rw[take_one l p (by omega),h1]
 rw[h3]at hc;have:=rZ (l.take p) (l.drop (p+2)) hc;rw[←e,List.length_take]at this;omega
def CJ(l:List Int)(i:Nat)(cut:Int):Prop:=(cut=-1∧cc (l.take (i+1))=0)∨(∃ p:Nat,cut=(p:Int)∧p+1<l.length∧cp l=p∧cc (l.take (i+1))=1)
theorem CJ.start(l:List Int):CJ l 0 (-1):=.inl ⟨rfl,by
  match l with
  | []=>rfl
  | [a]=>rfl
  | a::b::t=>rfl⟩
theorem CJ.no{l:List Int}{i:Nat}{cut:Int}(hi:i+1<l.length)(h:¬ (l[i]?.getD 0=58∧l[i+1]?.getD 0=58))(J:CJ l i cut):CJ l (i+1) cut:=by
 have e:=pX hi;rw[if_neg h,Nat.add_zero]at e;rcases J with⟨h1,h2⟩ | ⟨p,h1,h2,h3,h4⟩
 ·exact .inl ⟨h1,e.trans h2⟩
 ·exact .inr ⟨p,h1,h2,h3,e.trans h4⟩
theorem CJ.yes{l:List Int}{i:Nat}(hi:i+1<l.length)(h:l[i]?.getD 0=58∧l[i+1]?.getD 0=58)(J:CJ l i (-1)):CJ l (i+1) (i:Int):=by
 have e:=pX hi;rw[if_pos h]at e;rcases J with⟨_,h2⟩ | ⟨p,h1,_⟩
 ·exact .inr ⟨i,rfl,hi,DJ hi h.1 h.2 h2,by rw[e,h2]⟩
 ·omega
theorem CJ.two{l:List Int}{i p:Nat}(hi:i+1<l.length)(h:l[i]?.getD 0=58∧l[i+1]?.getD 0=58)(J:CJ l i (p:Int)):prs l=none:=by
 have e:=pX hi;rw[if_pos h]at e;have hle:=tv l (i+2);rcases J with⟨h1,_⟩ | ⟨p,_,_,_,h4⟩
 ·omega
 ·unfold prs
  rw[if_neg (by omega),if_neg (by omega)]
theorem CJ.all{l:List Int}{i:Nat}{cut:Int}(hi:l.length≤i+1)(J:CJ l i cut):(cut=-1∧prs l=full (pieces true l))∨(∃ p:Nat,cut=(p:Int)∧p+1<l.length∧prs l=both (pieces false (l.take p)) (pieces true (l.drop (p+2)))):=by
 unfold CJ at J
 rw[List.take_of_length_le hi]at J;rcases J with⟨h1,h2⟩ | ⟨p,h1,h2,h3,h4⟩
 ·left
  refine⟨h1,?_⟩;unfold prs;rw[if_pos h2]
 ·right
  refine⟨p,h1,h2,?_⟩;unfold prs;rw[if_neg (by omega),if_pos h4,h3]
def z8:List Nat:=[0,0,0,0,0,0,0,0]
theorem qj(L:List Nat):(ak L).length=L.length:=by unfold ak;simp
theorem k8(X:List Nat)(i v:Nat):(ak X).toArray.setIfInBounds i (.int .u16 (v:Nat))=(ak (X.set i v)).toArray:=by
 unfold ak;rw[List.map_set];simp
theorem cg{W:World}{g:Nat}{t:TypeId}{X:List Nat}(h:W.heap[g]? = some (.cells (ak X).toArray t (0,0))){j:Nat}(hj:j<X.length):W.cell? ⟨g,j,none⟩=some (.int .u16 ((X[j]?.getD 0:Nat):Int)):=by
 simp only[World.cell?,h];unfold ak;simp[hj]
theorem cM(X:List Nat):(ak X).toArray.all (·.oneCell')=true:=by
 simp[ak,Value.oneCell']
theorem Ib:(Tryz.prog.info? 24).map (·.size)=some 8:=by kernel_rfl
theorem aH{X:List Nat}(h:X.length=8):(Tryz.prog.info? 24).map (·.size)=some (ak X).toArray.size:=by
 rw[Ib];simp[qj,h]
theorem aV{X:List Nat}(h:X.length=8):(ak X).toArray.size=8:=by simp[qj,h]
theorem aN{w:World}{g:Nat}{cs old:Array Value}{t:TypeId}(h:w.heap[g]? = some (.cells old t (0,0))):(w.setRow g cs).heap[g]? = some (.cells cs t (0,0)):=setRow_heap w g old cs t _ h
theorem bB{fn:Func}{p u:Tmp}{ty:TypeId}(h:fn.results=#[.cell p ty,.tmp u])(tmps:Array Value)(w:World)(g:Nat)(t:TypeId)(cs:Array Value)(fr:Nat×Nat)(n:Nat)(e:TypeId)
  (hp:tmps.getD p undef=.pointer (some ⟨g,0,none⟩)) (hg:w.heap[g]? = some (.cells cs t fr))
  (hu:Tryz.prog.underlying ty=some (.array n e)) (hi:(Tryz.prog.info? ty).map (·.size)=some cs.size) :
  (results fn tmps).run Tryz.prog w=.ok (.tuple #[.agg cs,tmps.getD u undef]) w:=by
 rw[results_cell_tmp h];have hp':tmps[p]?.getD undef=.pointer (some ⟨g,0,none⟩):=by simpa using hp
 simp[hp',asAddr,run_loadVar_row w g t ty cs fr (.array n e) hg hu rfl hi]
theorem gh(w:World)(g i b j:Nat)(v:Value)(h:b≠g):(w.setCell ⟨g,i,none⟩ v).cell? ⟨b,j,none⟩=w.cell? ⟨b,j,none⟩:=by
 have e:=heap_setCell_other w ⟨g,i,none⟩ b v h;simp only[World.cell?,e]
theorem Dp{X L:List Nat}(hx:X.length=8)(hl:L.length=8)(h:∀ j,j<8→X[j]?.getD 0=L[j]?.getD 0):X=L:=by
 apply List.ext_getElem (by omega);intro j h1 h2
 have:=h j (by omega);rw[List.getElem?_eq_getElem h1,List.getElem?_eq_getElem h2]at this;exact this
def Src(W:World)(a:Option Addr)(L:List Nat)(A:Nat):Prop:=0<L.length→∃ b,b≠A∧a=some ⟨b,0,none⟩∧∀ j,j<L.length→W.cell? ⟨b,j,none⟩=some (.int .u16 ((L[j]?.getD 0:Nat):Int))
theorem Src.below{W W':World}{a:Option Addr}{L:List Nat}{A:Nat}(h:Src W a L A)(hb:Below W.heap.size W W'):Src W' a L A:=fun hp=>by
 obtain⟨b,h1,h2,h3⟩:=h hp;exact⟨b,h1,h2,fun j hj=>(hb.cell (p:=⟨b,j,none⟩) (jw (h3 j hj))).trans (h3 j hj)⟩
theorem Src.set{W:World}{a:Option Addr}{L:List Nat}{A:Nat}(h:Src W a L A)(i:Nat)(v:Value):Src (W.setCell ⟨A,i,none⟩ v) a L A:=fun hp=>by
 obtain⟨b,h1,h2,h3⟩:=h hp;exact⟨b,h1,h2,fun j hj=>(gh W A i b j v h1).trans (h3 j hj)⟩
theorem aw{B:Nat}{w w':World}(h:Below B w w'){g:Nat}(hg:B≤g)(cs:Array Value):Below B w (w'.setRow g cs):=by
 refine⟨h.os,h.tape,h.output,?_,fun k hk=>?_⟩
 ·show w.heap.size≤(w'.setRow g cs).heap.size
  have e:(w'.setRow g cs).heap.size=w'.heap.size:=by unfold World.setRow;simp
  rw[e];exact h.size
 ·have e:(w'.setRow g cs).heap[k]? = w'.heap[k]? := by
   unfold World.setRow;simp only[Array.getElem?_modify];rw[if_neg (by omega)]
  rw[e];exact h.block k hk
open Go.Proofs.YtkekkbciiohbkaaGreatDoor.F (hx bw vl cJ bn aa aC av aq ar hid aj ab ah aR aK)
def al:List (List Int)→Option (List Nat)
 | []=>some []
 | p::r=>put (pc p) (al r)
theorem Es{p:List Int}{r:List (List Int)}{L:List Nat}(h:al (p::r)=some L):∃ v M,pc p=some v∧al r=some M∧L=v::M:=by
 have h':put (pc p) (al r)=some L:=h;cases hp:pc p with
 | none=>rw[hp]at h';simp[put]at h'
 | some v =>
  cases hq:al r with
  | none=>rw[hp,hq]at h';simp[put]at h'
  | some M=>rw[hp,hq]at h';simp[put]at h';exact⟨v,M,rfl,rfl,h'.symm⟩
theorem tE:∀(ps:List (List Int)) (L:List Nat),al ps=some L→L.length=ps.length
 | [],L,h=>by cases h;rfl
 | p::r,L,h=>by
  obtain⟨v,M,_,h2,rfl⟩:=Es h;rw[List.length_cons,tE r M h2];rfl
theorem uZ{ps:List (List Int)}{p:List Int}(h:p∈ps)(hp:pc p=none):al ps=none:=by
 induction ps with
 | nil=>cases h
 | cons q r ih =>
  rcases List.mem_cons.1 h with rfl | h
  ·show put (pc p) (al r)=none
   rw[hp];rfl
  ·show put (pc q) (al r)=none
   rw[ih h];cases pc q <;> rfl
theorem AZ:∀(ps:List (List Int)) (L:List Nat),ps.map pc=L.map some→al ps=some L
 | [],[],_=>rfl
 | [],_::_,h=>by simp at h
 | _::_,[],h=>by simp at h
 | p::r,v::M,h=>by
  simp only[List.map_cons,List.cons.injEq]at h;show put (pc p) (al r)=_
  rw[h.1,AZ r M h.2];rfl
def rwd(l:List Int):Option (List Nat):=if l=[] then some [] else if (spB 58 l).length≤8 then al (spB 58 l) else none
def z(n:Nat):List Nat:=List.replicate n 0
theorem BW{l:List Int}{L:List Nat}(h:rwd l=some L):L.length≤8:=by
 unfold rwd at h
 split at h
 ·cases h;simp
 ·split at h
  ·rename_i h8
   rw[tE _ L h];exact h8
  ·cases h
def Eu(o:Option (List Nat))(e:Ending):Prop:=(∃ v:List Nat,o=some v∧v.length≤8∧e=.returned (.tuple #[.agg (ak (v++z (8 - v.length))).toArray,.int .i64 (v.length:Int),.bool true]))∨(o=none∧∃ X:List Nat,X.length=8∧e=.returned (.tuple #[.agg (ak X).toArray,.int .i64 0,.bool false]))
theorem dM{fn:Func}{p u v:Tmp}{ty:TypeId}(h:fn.results=#[.cell p ty,.tmp u,.tmp v])(tmps:Array Value)(w:World)(g:Nat)(t:TypeId)(cs:Array Value)(fr:Nat×Nat)(n:Nat)(e:TypeId)
  (hp:tmps.getD p undef=.pointer (some ⟨g,0,none⟩)) (hg:w.heap[g]? = some (.cells cs t fr))
  (hu:Tryz.prog.underlying ty=some (.array n e)) (hi:(Tryz.prog.info? ty).map (·.size)=some cs.size) :
  (results fn tmps).run Tryz.prog w=.ok (.tuple #[.agg cs,tmps.getD u undef,tmps.getD v undef]) w:=by
 simp only[results,h];have hp':tmps[p]?.getD undef=.pointer (some ⟨g,0,none⟩):=by simpa using hp
 simp[Result.andThen,hp',asAddr,run_loadVar_row w g t ty cs fr (.array n e) hg hu rfl hi]
def Fil(ps:List (List Int))(i:Nat)(X:List Nat):Prop:=X.length=8∧∃ L:List Nat,L.length=i∧(ps.take i).map pc=L.map some∧X=L++z (8 - i)
theorem Fil.start(ps:List (List Int)):Fil ps 0 z8:=⟨rfl,[],rfl,rfl,rfl⟩
theorem Fil.step{ps:List (List Int)}{i:Nat}{X:List Nat}{v:Nat}{p:List Int}(h:Fil ps i X)(hi:i<8)(hp:ps[i]? = some p)(hv:pc p=some v):Fil ps (i+1) (X.set i v):=by
 obtain⟨h8,L,h1,h2,h3⟩:=h;refine⟨by rw[List.length_set];exact h8,L++[v],by rw[List.length_append,h1];rfl,?_,?_⟩
 ·rw[List.take_add_one,hp,List.map_append,h2,List.map_append]
  simp[hv]
 ·rw[h3]
  have e:z (8 - i)=0::z (8 - (i+1)):=by
   unfold z;rw[show 8 - i=(8 - (i+1))+1 by omega,List.replicate_succ]
  rw[e,List.set_append_right _ _ (by omega),h1,Nat.sub_self];simp
theorem Fil.all{ps:List (List Int)}{X:List Nat}{i:Nat}(h:Fil ps i X)(hi:i=ps.length):∃ L:List Nat,al ps=some L∧L.length=ps.length∧X=L++z (8 - L.length):=by
 obtain⟨_,L,h1,h2,h3⟩:=h;subst hi;rw[List.take_length]at h2;exact⟨L,AZ _ _ h2,h1,by rw[h1];exact h3⟩
theorem ug(U:ByteArray)(hU:U.size≤1000000)(w:World)(hE:Er w)(hM:Mx w):Calls Tryz.prog 64 #[.string U] w fun e W'=>Eu (rwd (bn U)) e∧Below w.heap.size w W':=by
 have HNO:Hid (∀ X:List Nat,rwd (bn U)=none→X.length=8→Eu (rwd (bn U)) (.returned (.tuple #[.agg (ak X).toArray,.int .i64 0,.bool false]))):=fun X h h8=>.inr ⟨h,X,h8,rfl⟩
 have HYES:Hid (∀ v:List Nat,rwd (bn U)=some v→Eu (rwd (bn U)) (.returned (.tuple #[.agg (ak (v++z (8 - v.length))).toArray,.int .i64 (v.length:Int),.bool true]))):=fun v h=>.inl ⟨v,h,BW h,rfl⟩
 have HB0:Hid (Below w.heap.size w (w.alloc (.cells (ak z8).toArray 24))):=(Below.refl _ w).alloc (Nat.le_refl _) _;have HA0:Hid ((w.alloc (.cells (ak z8).toArray 24)).heap[w.heap.size]? = some (.cells (ak z8).toArray 24 (0,0))):=heap_alloc_new _ _;have HZ0:Hid ((w.alloc (.cells (ak z8).toArray 24)).heap.size=w.heap.size+1):=by show _=_;simp
 have HWE:Hid (w.alloc (.cells (ak z8).toArray 24)=w.alloc (.cells #[.int .u16 0,.int .u16 0,.int .u16 0,.int .u16 0,.int .u16 0,.int .u16 0,.int .u16 0,.int .u16 0] 24)):=rfl
 have HRW:Hid (U.size≠0→rwd (bn U)=if (spB 58 (bn U)).length≤8 then al (spB 58 (bn U)) else none):=fun h=>by
  unfold rwd;rw[if_neg (fun e=>h (by rw[←aa,e];rfl))]
 have HRE:Hid (U.size=0→rwd (bn U)=some []):=fun h=>by
  unfold rwd;rw[if_pos (List.eq_nil_of_length_eq_zero (by rw[aa];exact h))]
 have hmem:=lO 58 (bn U);rw[aa]at hmem;have HMEM:=hid hmem;have HEM:=hid (ab U);have HEM0:=hid (ah U);obtain⟨o,ho⟩:∃ o,rwd (bn U)=o:=⟨_,rfl⟩;rw[ho]at HNO HYES HRW HRE ⊢;clear ho hmem;have HXL:Hid (z8.length=8):=rfl;by_cases h0:U.size=0
 ·have HR:=hid (HYES.out [] (HRE.out h0))
  have hem:=HEM0.out h0;clear HYES HRE HNO HRW h0 HEM HEM0;go_enter Tryz.func64,Tryz.ntmps64
  go_wp2_with(first
    | (refine wpList_load_row rfl 24 (.tmp 2) rfl w.heap.size rfl 24 (ak z8).toArray (0,0) _ HA0.out Tryz.underlying24 rfl (aH HXL.out) ?_)
    | (refine wpList_store_row rfl 24 (.tmp 2) (.tmp 10) rfl w.heap.size (ak z8).toArray rfl rfl 24 (ak z8).toArray HA0.out (aH HXL.out) ((aV rfl).trans (aV HXL.out).symm) (cM z8) ?_))
  exact bodyPost_ret (dM Tryz.results64 _ _ w.heap.size 24 (ak z8).toArray (0,0) _ _ rfl (aN HA0.out) Tryz.underlying24 (aH HXL.out)) rfl ⟨HR.out,aw HB0.out (Nat.le_refl _) _⟩
 ·have hem:=HEM.out (by omega)
  have HRW2:=hid (HRW.out h0);have HSP:Hid (∀ W,Mx W→Calls Tryz.prog 105 #[.string U,.string ⟨#[58]⟩,.int .i64 9] W fun e W'=>G0 58 8 U W e W'):=fun W hM=>fJ 58 8 (by omega) U W (by omega) hM
  have HMX:=hid (hM.below HB0.out);have HER:=hid (hE.below HB0.out);clear HRW HRE HEM HEM0 h0 hE hM;go_enter Tryz.func64,Tryz.ntmps64
  go_wp2_with fail;rw[←HWE.out];obtain⟨w1,hw1⟩:∃ w1,w.alloc (.cells (ak z8).toArray 24)=w1:=⟨_,rfl⟩;rw[hw1]at HB0 HA0 HZ0 HMX HER ⊢;clear hw1 HWE;refine(HSP.out w1 HMX.out).mono ?_;rintro e w2 ⟨⟨g,c,qs,rfl,hcb,hor⟩,B1⟩
  have HB1:=hid (HB0.out.trans (B1.mono HB0.out.size));have HER2:=hid (HER.out.below B1);have HA1:Hid (w2.heap[w.heap.size]? = some (.cells (ak z8).toArray 24 (0,0))):=(B1.block _ (by rw[HZ0.out];omega)).trans HA0.out;have HCB:=hid hcb;have hz2:w.heap.size<w2.heap.size:=by have:=HZ0.out;have:=B1.size;omega
  clear B1 HSP hcb HMX HER HA0 HB0 HZ0;by_cases h8:qs.length≤8
  ·have hqs:qs.map bn=spB 58 (bn U):=by
    rcases hor with h | h
    ·exact h.2
    ·omega
   have HSZ:Hid (∀ i,i<qs.length→(qs[i]?.getD ⟨#[]⟩).size≤1000000):=fun i hi=>by
    have h1:bn (qs[i]?.getD ⟨#[]⟩)∈spB 58 (bn U):=by
     rw[←hqs,List.getElem?_eq_getElem hi];exact List.mem_map_of_mem (List.getElem_mem hi)
    have:=(HMEM.out _ h1).1;rw[aa]at this;omega
   have HO:Hid (o=al (qs.map bn)):=by
    show _=_
    rw[HRW2.out,←hqs,if_pos (by rw[List.length_map];exact h8)]
   have HLN:Hid ((qs.map bn).length=qs.length):=by show _=_;rw[List.length_map]
   have HPS:Hid (∀ i,i<qs.length→(qs.map bn)[i]? = some (bn (qs[i]?.getD ⟨#[]⟩))):=fun i hi=>by
    rw[List.getElem?_map,List.getElem?_eq_getElem hi];rfl
   obtain⟨ps,hps⟩:∃ ps,qs.map bn=ps:=⟨_,rfl⟩;rw[hps]at HO HLN HPS;obtain⟨n,hn⟩:∃ n,qs.length=n:=⟨_,rfl⟩;rw[hn]at HCB HSZ HLN HPS h8 ⊢;clear hor hqs HMEM HRW2 hps hn;have h8z:¬ (8:Int)<(n:Int):=by omega
   have HF0:=hid (Fil.start ps)
   go_wp2_with fail
   go_loopw [4,19] (fun v4 v19 wr=>∃(i:Nat) (b:Bool) (X:List Nat),i≤n∧v4=.bool b∧v19=.int .i64 (i:Int)∧Hid (Fil ps i X)∧Hid (wr.heap[w.heap.size]? = some (.cells (ak X).toArray 24 (0,0)))∧Hid (∀ j,j<n→wr.cell? ⟨g,j,none⟩=some (.string (qs[j]?.getD ⟨#[]⟩)))∧Hid (Er wr)∧Hid (Below w.heap.size w wr)) (fun _ v19 _=>n - (intOf v19).toNat)
   case atStart=>exact⟨0,false,z8,by omega,rfl,rfl,HF0,HA1,HCB,HER2,HB1⟩
   case round =>
    obtain⟨i,b,X,hi,rfl,rfl,HF,HA,HC,HEr,HB⟩:=hrel;have HXL2:=hid HF.out.1;by_cases hlt:i<n
    ·have hcr:=HC.out i hlt
     have HPI:=HPS.out i hlt;have HSI:=HSZ.out i hlt;obtain⟨D,hD⟩:∃ D,qs[i]?.getD ⟨#[]⟩=D:=⟨_,rfl⟩;rw[hD]at hcr HPI HSI;have HPP:=hid HPI;have hltz:(i:Int)<(n:Int):=by omega
     have hi8:i<8:=by omega
     have hi8z:(i:Int)<8:=by omega
     have hgb:g≠w.heap.size:=by
      intro e
      subst e;have h1:=HC.out 0 (by omega);rw[cg HA.out (by rw[HXL2.out];omega)]at h1;cases h1
     have hz:=Lib.lt_of_cell hcr
     have hzA:w.heap.size<wr.heap.size:=by
      rcases Nat.lt_or_ge w.heap.size wr.heap.size with h | h
      ·exact h
      ·have h5:=HA.out
       rw[Array.getElem?_eq_none h]at h5;cases h5
     clear hD HPI;cases hp:pc (bn D) with
     | none =>
      have HN:Hid (o=none):=by
       show _=_
       rw[HO.out];exact uZ (List.mem_of_getElem? HPP.out) hp
      have HPC:=hid (yN D hp (by omega) wr HEr.out);clear hp HPP HO HPS HSZ HCB HF0 HB1 HER2 HA1
      go_wp2_with fail;refine HPC.out.mono ?_;rintro e w4 ⟨rfl,B4⟩
      have HA4:Hid (w4.heap[w.heap.size]? = some (.cells (ak X).toArray 24 (0,0))):=(B4.block _ hzA).trans HA.out;have HB4:=hid (HB.out.trans (B4.mono HB.out.size));have hdst:=cg HA4.out (j:=i) (by rw[HXL2.out];exact hi8);have hfz:=frozen_of_row w4 w.heap.size i _ _ HA4.out
      have HA5:Hid ((w4.setCell ⟨w.heap.size,i,none⟩ (.int .u16 ((0:Nat):Int))).heap[w.heap.size]? = some (.cells (ak (X.set i 0)).toArray 24 (0,0))):=by
       show _=_
       rw[heap_setCell_same w4 _ i _ _ _ HA4.out,k8]
      have HB5:=hid (HB4.out.setCell (p:=⟨w.heap.size,i,none⟩) (Nat.le_refl _) (.int .u16 ((0:Nat):Int)));have HX5:Hid ((X.set i 0).length=8):=by show _=_;rw[List.length_set];exact HXL2.out
      clear HF HA HC HPC B4 HB HEr HXL2
      go_wp2_with(first
        | (refine wpList_load_row rfl 24 (.tmp 2) rfl w.heap.size rfl 24 (ak (X.set i 0)).toArray (0,0) _ HA5.out Tryz.underlying24 rfl (aH HX5.out) ?_)
        | (refine wpList_store_row rfl 24 (.tmp 2) (.tmp 33) rfl w.heap.size (ak (X.set i 0)).toArray rfl rfl 24 (ak (X.set i 0)).toArray HA5.out (aH HX5.out) ((aV HX5.out).trans (aV HX5.out).symm) (cM (X.set i 0)) ?_))
      exact bodyPost_ret (dM Tryz.results64 _ _ w.heap.size 24 (ak (X.set i 0)).toArray (0,0) _ _ rfl (aN HA5.out) Tryz.underlying24 (aH HX5.out)) rfl ⟨HNO.out _ HN.out HX5.out,aw HB5.out (Nat.le_refl _) _⟩
     | some v =>
      have HF2:=hid (HF.out.step hi8 HPP.out hp);have HPC:=hid (yO D v hp wr);clear hp HPP HF
      go_wp2_with fail;refine HPC.out.mono ?_;rintro e w4 ⟨rfl,B4⟩
      have HA4:Hid (w4.heap[w.heap.size]? = some (.cells (ak X).toArray 24 (0,0))):=(B4.block _ hzA).trans HA.out;have HB4:=hid (HB.out.trans (B4.mono HB.out.size));have HE4:=hid (HEr.out.below B4);have HC4:Hid (∀ j,j<n→w4.cell? ⟨g,j,none⟩=some (.string (qs[j]?.getD ⟨#[]⟩))):=fun j hj=>(B4.cell (p:=⟨g,j,none⟩) (Lib.lt_of_cell (HC.out j hj))).trans (HC.out j hj)
      have hdst:=cg HA4.out (j:=i) (by rw[HXL2.out];exact hi8);have hfz:=frozen_of_row w4 w.heap.size i _ _ HA4.out
      have HA5:Hid ((w4.setCell ⟨w.heap.size,i,none⟩ (.int .u16 (v:Nat))).heap[w.heap.size]? = some (.cells (ak (X.set i v)).toArray 24 (0,0))):=by
       show _=_
       rw[heap_setCell_same w4 _ i _ _ _ HA4.out,k8]
      have HC5:Hid (∀ j,j<n→(w4.setCell ⟨w.heap.size,i,none⟩ (.int .u16 (v:Nat))).cell? ⟨g,j,none⟩=some (.string (qs[j]?.getD ⟨#[]⟩))):=fun j hj=>(gh w4 _ i g j _ hgb).trans (HC4.out j hj)
      have HB5:=hid (HB4.out.setCell (p:=⟨w.heap.size,i,none⟩) (Nat.le_refl _) (.int .u16 (v:Nat)))
      have HE5:Hid (Er (w4.setCell ⟨w.heap.size,i,none⟩ (.int .u16 (v:Nat)))):=by
       obtain⟨⟨a,h1,h2⟩,⟨a',h3,h4⟩⟩:=HE4.out;refine⟨⟨a,?_,h2⟩,⟨a',?_,h4⟩⟩
       ·refine(gh w4 _ i _ 0 _ (fun e=>?_)).trans h1
        rw[e,cg HA4.out (by rw[HXL2.out];omega)]at h1;rcases h2 with rfl | ⟨_,_,rfl⟩ <;> cases h1
       ·refine(gh w4 _ i _ 0 _ (fun e=>?_)).trans h3
        rw[e,cg HA4.out (by rw[HXL2.out];omega)]at h3;rcases h4 with rfl | ⟨_,_,rfl⟩ <;> cases h3
      clear HA HC HC4 HPC B4 HB HEr HE4 HXL2
      go_wp2_with fail
      go_roundw
      case rel=>exact⟨i+1,true,X.set i v,by omega,rfl,by go_num,HF2,HA5,HC5,HE5,HB5⟩
      case measure=>simp[intOf];omega
    ·have hin:i=n:=by omega
     have hltz:¬ (i:Int)<(n:Int):=by omega
     obtain⟨L,l1,l2,l3⟩:=HF.out.all (by rw[HLN.out];exact hin)
     have HR:Hid (Eu o (.returned (.tuple #[.agg (ak X).toArray,.int .i64 (n:Int),.bool true]))):=by
      have h5:=HYES.out L (HO.out.trans l1);rw[←l3,l2,HLN.out]at h5;exact h5
     clear l1 l2 l3 HO HPS HSZ HCB HF0 HB1 HER2 HA1 HF HC HEr HNO HYES hin
     go_wp2_with(first
       | (refine wpList_load_row rfl 24 (.tmp 2) rfl w.heap.size rfl 24 (ak X).toArray (0,0) _ HA.out Tryz.underlying24 rfl (aH HXL2.out) ?_)
       | (refine wpList_store_row rfl 24 (.tmp 2) (.tmp 35) rfl w.heap.size (ak X).toArray rfl rfl 24 (ak X).toArray HA.out (aH HXL2.out) ((aV HXL2.out).trans (aV HXL2.out).symm) (cM X) ?_))
     exact bodyPost_ret (dM Tryz.results64 _ _ w.heap.size 24 (ak X).toArray (0,0) _ _ rfl (aN HA.out) Tryz.underlying24 (aH HXL2.out)) rfl ⟨HR.out,aw HB.out (Nat.le_refl _) _⟩
  ·have HN:Hid (o=none):=by
    show _=_
    rw[HRW2.out,if_neg];rcases hor with⟨h,h5⟩ | ⟨h,_⟩
    ·have:=congrArg List.length h5
     rw[List.length_map]at this;have h6:(spB 58 (bn U)).length=qs.length:=this.symm;omega
    ·have h6:8<(spB 58 (bn U)).length:=h
     omega
   have hle:qs.length≤1000001:=by
    rcases hor with⟨h,h5⟩ | ⟨_,_,h⟩
    ·have:=congrArg List.length h5
     rw[List.length_map]at this;omega
    ·omega
   have h8z:(8:Int)<(qs.length:Int):=by omega
   obtain⟨n,hn⟩:∃ n,qs.length=n:=⟨_,rfl⟩;rw[hn]at h8z hle ⊢;clear hor HCB hn h8 HMEM HRW2 HYES
   go_wp2_with(first
     | (refine wpList_load_row rfl 24 (.tmp 2) rfl w.heap.size rfl 24 (ak z8).toArray (0,0) _ HA1.out Tryz.underlying24 rfl (aH HXL.out) ?_)
     | (refine wpList_store_row rfl 24 (.tmp 2) (.tmp 16) rfl w.heap.size (ak z8).toArray rfl rfl 24 (ak z8).toArray HA1.out (aH HXL.out) ((aV rfl).trans (aV HXL.out).symm) (cM z8) ?_))
   exact bodyPost_ret (dM Tryz.results64 _ _ w.heap.size 24 (ak z8).toArray (0,0) _ _ rfl (aN HA1.out) Tryz.underlying24 (aH HXL.out)) rfl ⟨HNO.out _ HN.out HXL.out,aw HB1.out (Nat.le_refl _) _⟩
open Go.Proofs.YtkekkbciiohbkaaGreatDoor.F (hx bw vl bn aa)
theorem uC(p:List Int):lst false p=(pc p).map (fun v=>[v]):=by
 unfold lst;rw[if_neg (by decide)]
theorem yS:∀ ps:List (List Int),pcs false ps=al ps
 | []=>rfl
 | [p]=>by
  show lst false p=put (pc p) (some [])
  rw[uC];cases pc p <;> rfl
 | p::q::r=>by
  have ih:=yS (q::r);show put (pc p) (pcs false (q::r))=put (pc p) (al (q::r))
  rw[ih]
theorem iQ{l:List Int}:rwd l=pieces false l∨(rwd l=none∧∀ L,pieces false l=some L→8<L.length):=by
 unfold rwd pieces;by_cases h:l=[]
 ·left;rw[if_pos h,if_pos h]
 ·rw[if_neg h,if_neg h,yS]
  by_cases h8:(spB 58 l).length≤8
  ·left;rw[if_pos h8]
  ·right
   rw[if_neg h8];exact⟨rfl,fun L hL=>by rw[tE _ L hL];omega⟩
theorem rG(l:List Int):full (rwd l)=full (pieces false l):=by
 rcases iQ (l:=l) with h | ⟨h,h2⟩
 ·rw[h]
 ·rw[h]
  cases hp:pieces false l with
  | none=>rfl
  | some L =>
   have:=h2 L hp;show none=if L.length=8 then some L else none
   rw[if_neg (by omega)]
theorem se(f b:List Int):both (rwd f) (rwd b)=both (pieces false f) (pieces false b):=by
 have no1:∀ o:Option (List Nat),both none o=none:=fun o=>by cases o <;> rfl
 have no2:∀ o:Option (List Nat),both o none=none:=fun o=>by cases o <;> rfl
 have big:∀ F B:List Nat,7<F.length+B.length→both (some F) (some B)=none:=fun F B h=>by
  show(if F.length+B.length≤7 then _ else none)=none
  rw[if_neg (by omega)]
 rcases iQ (l:=f) with h | ⟨h,h2⟩ <;> rcases iQ (l:=b) with g | ⟨g,g2⟩ <;> rw[h,g]
 ·rw[no2]
  cases hb:pieces false b with
  | none=>rw[no2]
  | some B =>
   cases hf:pieces false f with
   | none=>rw[no1]
   | some F=>rw[big F B (by have:=g2 B hb;omega)]
 ·rw[no1]
  cases hb:pieces false b with
  | none=>rw[no2]
  | some B =>
   cases hf:pieces false f with
   | none=>rw[no1]
   | some F=>rw[big F B (by have:=h2 F hf;omega)]
 ·rw[no1]
  cases hb:pieces false b with
  | none=>rw[no2]
  | some B =>
   cases hf:pieces false f with
   | none=>rw[no1]
   | some F=>rw[big F B (by have:=h2 F hf;omega)]
theorem rU{p:List Int}(h:¬ 46∈p):dt p=none:=by
 unfold dt;rw[ei 46 p h];show kF [dn p]=none
 exact ow (by simp)
theorem om{p:List Int}(h:dt p=none):lst true p=lst false p:=by
 unfold lst;rw[if_pos rfl,if_neg (by decide),h]
theorem Fz{p:List Int}(h:46∈p):pc p=none:=by
 unfold pc;rw[if_neg];intro hh
 have:=(List.all_eq_true.1 hh.2.2) 46 h
 revert this
 decide
theorem n9{p:List Int}(h:dt p=none):∀ ps:List (List Int),ps.getLast? = some p→pcs true ps=pcs false ps
 | [],_=>rfl
 | [q],e=>by
  have:q=p:=by simpa using e
  subst this;exact om h
 | q::r::s,e=>by
  have ih:=n9 h (r::s) (by simpa using e);show put (pc q) (pcs true (r::s))=put (pc q) (pcs false (r::s))
  rw[ih]
theorem yR{p:List Int}(h:lst true p=none):∀ ps:List (List Int),ps.getLast? = some p→pcs true ps=none
 | [],e=>by cases e
 | [q],e=>by
  have:q=p:=by simpa using e
  subst this;exact h
 | q::r::s,e=>by
  have ih:=yR h (r::s) (by simpa using e);show put (pc q) (pcs true (r::s))=none
  rw[ih];cases pc q <;> rfl
theorem uq{p qa qb:List Int}{a b:Nat}(h:lst true p=some [a,b])(ha:pc qa=some a)(hb:pc qb=some b):∀ ps:List (List Int),pcs true (ps++[p])=pcs false (ps++[qa,qb])
 | []=>by
  show lst true p=put (pc qa) (lst false qb)
  rw[uC,h,ha,hb];rfl
 | q::r=>by
  have ih:=uq h ha hb r
  have e1:pcs true (q::(r++[p]))=put (pc q) (pcs true (r++[p])):=by
   cases r with
   | nil=>rfl
   | cons _ _=>rfl
  have e2:pcs false (q::(r++[qa,qb]))=put (pc q) (pcs false (r++[qa,qb])):=by
   cases r with
   | nil=>rfl
   | cons _ _=>rfl
  show pcs true (q::(r++[p]))=pcs false (q::(r++[qa,qb]))
  rw[e1,e2,ih]
def Frn(X:List Int):Prop:=X=[]∨∃ Y,X=Y++[58]
theorem yn{X:List Int}(hX:Frn X):∃ L:List (List Int),∀ p:List Int,spB 58 (X++p)=L++spB 58 p:=by
 rcases hX with rfl | ⟨Y,rfl⟩
 ·exact⟨[],fun p=>rfl⟩
 ·refine⟨spB 58 Y,fun p=>?_⟩
  rw[List.append_assoc];exact jX 58 Y p
theorem tU{X p:List Int}(hX:Frn X)(hp:¬ 58∈p):(spB 58 (X++p)).getLast? = some p:=by
 obtain⟨L,h⟩:=yn hX;rw[h,ei 58 p hp];simp
theorem jo{l p:List Int}(hl:(spB 58 l).getLast? = some p)(h:dt p=none):pieces true l=pieces false l:=by
 unfold pieces;rw[n9 h _ hl]
theorem nZ{l p:List Int}(hl:(spB 58 l).getLast? = some p)(h:lst true p=none)(hp:p≠[]):pieces true l=none:=by
 unfold pieces;rw[if_neg,yR h _ hl];intro e
 rw[e]at hl;exact hp (by simpa[spB]using hl.symm)
theorem fv:∀ l:List Int,cc l≠0→∃ A B,l=A++58::58::B∧cc (A++[58])=0
 | [],h=>absurd rfl h
 | [a],h=>absurd rfl h
 | a::b::t,h=>by
  by_cases hab:a=58∧b=58
  ·exact⟨[],t,by rw[hab.1,hab.2];rfl,rfl⟩
  ·rw[bX,if_neg hab,Nat.zero_add]at h
   obtain⟨A,B,h1,h2⟩:=fv (b::t) h;refine⟨a::A,B,by rw[h1];rfl,?_⟩;cases A with
   | nil =>
    have hb:b=58:=by
     have h5:b::t=58::58::B:=h1;exact(List.cons.inj h5).1
    show cc (a::58::[])=0
    rw[bX,if_neg (fun hh=>hab ⟨hh.1,hb⟩)];rfl
   | cons c A =>
    have hb:b=c:=by
     have h5:b::t=c::(A++58::58::B):=h1;exact(List.cons.inj h5).1
    show cc (a::c::(A++[58]))=0
    rw[bX,if_neg (fun hh=>hab ⟨hh.1,hb.trans hh.2⟩)];rw[Nat.zero_add];exact h2
theorem wH{B:List Int}(h:cc (58::B)≠0):[]∈spB 58 B∧B≠[]:=by
 cases B with
 | nil=>exact absurd rfl h
 | cons b t =>
  refine⟨?_,by simp⟩;by_cases hb:b=58
  ·rw[hb,spB,if_pos rfl];simp
  ·rw[bX,if_neg (fun hh=>hb hh.2),Nat.zero_add]at h
   obtain⟨A,B,h1,_⟩:=fv (b::t) h;rw[h1];have e:spB 58 (A++58::58::B)=spB 58 A++spB 58 (58::B):=jX 58 A (58::B);have e2:spB 58 (58::B)=[]::spB 58 B:=if_pos rfl;rw[e,e2];simp
theorem nS{B:List Int}(h:cc (58::B)≠0):rwd B=none:=by
 obtain⟨h1,h2⟩:=wH h;unfold rwd;rw[if_neg h2];split
 ·exact uZ h1 rfl
 ·rfl
theorem AH{A B:List Int}(h:cc (A++[58])=0):cc (A++58::58::B)=1+cc (58::B):=by
 have e:A++58::58::B=(A++[58])++(58::B):=by simp
 rw[e,dr,h,if_pos ⟨by simp,by simp⟩];omega
def pp(l:List Int):Option (List Nat):=if cc l=0 then full (rwd l) else both (rwd (l.take (cp l))) (rwd (l.drop (cp l+2)))
theorem yI{A B:List Int}(h:cc (A++[58])=0):pp (A++58::58::B)=both (rwd A) (rwd B):=by
 have hc:=AH (B:=B) h;unfold pp;rw[if_neg (by omega),rZ A B h];have t1:(A++58::58::B).take A.length=A:=List.take_left;have t2:(A++58::58::B).drop (A.length+2)=B:=by rw[←List.drop_drop,List.drop_left];rfl
 rw[t1,t2]
theorem l7{A B:List Int}(h:cc (A++[58])=0):prs (A++58::58::B)=if cc (58::B)=0 then both (pieces false A) (pieces true B) else none:=by
 have hc:=AH (B:=B) h;unfold prs;rw[if_neg (by omega),rZ A B h];have t1:(A++58::58::B).take A.length=A:=List.take_left;have t2:(A++58::58::B).drop (A.length+2)=B:=by rw[←List.drop_drop,List.drop_left];rfl
 rw[t1,t2];by_cases h0:cc (58::B)=0
 ·rw[if_pos (by omega),if_pos h0]
 ·rw[if_neg (by omega),if_neg h0]
theorem iz(o:Option (List Nat)):both o none=none:=by cases o <;> rfl
theorem km{A B:List Int}:(spB 58 (A++58::58::B)).getLast? = (spB 58 B).getLast? := by
 have e:spB 58 (A++58::58::B)=spB 58 A++spB 58 (58::B):=jX 58 A (58::B);have e2:spB 58 (58::B)=[]::spB 58 B:=if_pos rfl;rw[e,e2];cases h:spB 58 B with
 | nil=>exact absurd h (jY 58 B)
 | cons x y =>
  have e3:spB 58 A++[]::x::y=(spB 58 A++[[]])++(x::y):=by simp
  rw[e3,List.getLast?_append];cases h6:(x::y).getLast? with
  | none=>simp at h6
  | some v=>rfl
theorem yH{X p:List Int}(hX:Frn X)(hp:¬ 58∈p)(hd:¬ 46∈p):pp (X++p)=prs (X++p):=by
 have hl:=tU hX hp;obtain⟨l,e⟩:∃ l,X++p=l:=⟨_,rfl⟩;rw[e]at hl ⊢;by_cases h0:cc l=0
 ·unfold pp prs
  rw[if_pos h0,if_pos h0,rG,jo hl (rU hd)]
 ·obtain⟨A,B,rfl,hA⟩:=fv l h0
  rw[yI hA,l7 hA];rw[km]at hl;by_cases h1:cc (58::B)=0
  ·rw[if_pos h1,se,jo hl (rU hd)]
  ·rw[if_neg h1,nS h1,iz]
theorem vM{X p:List Int}(hX:Frn X)(hp:¬ 58∈p)(hd:46∈p)(h:dt p=none):prs (X++p)=none:=by
 have hl:=tU hX hp
 have hlst:lst true p=none:=by
  rw[om h];unfold lst;rw[if_neg (by decide),Fz hd];rfl
 have hne:p≠[]:=fun e=>by rw[e]at hd;cases hd
 obtain⟨l,e⟩:∃ l,X++p=l:=⟨_,rfl⟩;rw[e]at hl ⊢;by_cases h0:cc l=0
 ·unfold prs
  rw[if_pos h0,nZ hl hlst hne];rfl
 ·obtain⟨A,B,rfl,hA⟩:=fv l h0
  rw[l7 hA];rw[km]at hl;split
  ·rw[nZ hl hlst hne,iz]
  ·rfl
theorem Cs{X p:List Int}{a b:Nat}(hX:Frn X)(hp:¬ 58∈p)(hd:46∈p)(h:dt p=some [a,b])(ha:a<65536)(hb:b<65536):pp (X++(aS false false a++58::aS false false b))=prs (X++p):=by
 have hlst:lst true p=some [a,b]:=by
  unfold lst;rw[if_pos rfl,h]
 have hne:p≠[]:=fun e=>by rw[e]at hd;cases hd
 have qa:=mE (cap:=false) (nts:=false) ha;have qb:=mE (cap:=false) (nts:=false) hb;have pa:=kX (cap:=false) (nts:=false) ha;have pb:=kX (cap:=false) (nts:=false) hb;obtain⟨q1,hq1⟩:∃ q1,aS false false a=q1:=⟨_,rfl⟩;obtain⟨q2,hq2⟩:∃ q2,aS false false b=q2:=⟨_,rfl⟩;rw[hq1]at qa pa ⊢;rw[hq2]at qb pb ⊢
 have pieces_eq:∀ Z:List Int,Frn Z→pieces true (Z++p)=pieces false (Z++(q1++58::q2)):=fun Z hZ=>by
  obtain⟨L,hL⟩:=yn hZ;unfold pieces;rw[if_neg (fun e=>hne (List.append_eq_nil_iff.1 e).2),if_neg (fun e=>by simp at e)];rw[hL,hL,ei 58 p hp,jX,ei 58 q1 qa.2,ei 58 q2 qb.2];exact uq hlst pa pb L
 have hq0:cc (q1++58::q2)=0:=by
  have e:(58::q2)=[58]++q2:=rfl;rw[dr,iy q1 qa.2,e,dr,iy q2 qb.2,if_neg (fun hh=>head_ne qb hh.2),if_neg (fun hh=>kV qa hh.1)];rfl
 have hph:p.head? ≠ some 58:=fun e=>hp (List.mem_of_mem_head? e)
 have hqh:(q1++58::q2).head? ≠ some 58:=by
  cases hq:q1 with
  | nil=>exact absurd hq qa.1
  | cons c t =>
   have:=head_ne qa;rw[hq]at this
   simpa using this
 have ccp:∀ Z:List Int,cc (Z++p)=cc Z:=fun Z=>by rw[dr,iy p hp,if_neg (fun hh=>hph hh.2)];rfl
 have ccq:∀ Z:List Int,cc (Z++(q1++58::q2))=cc Z:=fun Z=>by rw[dr,hq0,if_neg (fun hh=>hqh hh.2)];rfl
 by_cases h0:cc X=0
 ·unfold pp prs
  rw[if_pos (by rw[ccq];exact h0),if_pos (by rw[ccp];exact h0),rG,pieces_eq X hX]
 ·obtain⟨A,B,rfl,hA⟩:=fv X h0
  have hB:Frn B:=by
   rcases hX with e | ⟨Y,e⟩
   ·simp at e
   ·rcases List.eq_nil_or_concat B with e2 | ⟨B',c,e2⟩
    ·exact .inl e2
    ·right
     refine⟨B',?_⟩;rw[e2]at e ⊢;have e3:(A++58::58::B')++[c]=Y++[58]:=by simpa using e
     have:=(List.append_inj' e3 rfl).2
     simpa using this
  have e1:(A++58::58::B)++p=A++58::58::(B++p):=by simp
  have e2:(A++58::58::B)++(q1++58::q2)=A++58::58::(B++(q1++58::q2)):=by simp
  rw[e1,e2,yI hA,l7 hA];have c1:cc (58::(B++p))=cc (58::B):=ccp (58::B);have c2:cc (58::(B++(q1++58::q2)))=cc (58::B):=ccq (58::B);by_cases h1:cc (58::B)=0
  ·rw[if_pos (by rw[c1];exact h1),se,pieces_eq B hB]
  ·rw[if_neg (by rw[c1];exact h1),nS (B:=B++(q1++58::q2)) (by rw[c2];exact h1),iz]
theorem rE:∀ l:List UInt8,(cc (nn l)=0∧Lib.index l [58,58]=-1)∨(cc (nn l)≠0∧Lib.index l [58,58]=(cp (nn l):Int))
 | []=>.inl ⟨rfl,rfl⟩
 | [a]=>by
  left
  refine⟨rfl,?_⟩;have e:([58,58]:List UInt8).isPrefixOf [a]=false:=by simp[List.isPrefixOf]
  rw[Lib.index,e];rfl
 | a::b::t=>by
  have e0:nn (a::b::t)=(a.toNat:Int)::(b.toNat:Int)::nn t:=rfl;have e1:nn (b::t)=(b.toNat:Int)::nn t:=rfl;have ih:=rE (b::t)
  have q58:∀ x:UInt8,(x.toNat:Int)=58↔x=58:=fun x=>by
   constructor
   ·intro h
    exact UInt8.toNat_inj.1 (by have h5:(58:UInt8).toNat=58:=rfl;omega)
   ·intro h;rw[h];rfl
  by_cases hab:a=58∧b=58
  ·right
   rw[e0,bX,if_pos ⟨(q58 a).2 hab.1,(q58 b).2 hab.2⟩];refine⟨by omega,?_⟩;rw[cp,if_pos ⟨(q58 a).2 hab.1,(q58 b).2 hab.2⟩];have e:([58,58]:List UInt8).isPrefixOf (a::b::t)=true:=by rw[hab.1,hab.2];simp[List.isPrefixOf]
   rw[Lib.index,if_pos e];rfl
  ·have hn:¬ ((a.toNat:Int)=58∧(b.toNat:Int)=58):=fun h=>hab ⟨(q58 a).1 h.1,(q58 b).1 h.2⟩
   have e:¬ ([58,58]:List UInt8).isPrefixOf (a::b::t)=true:=by
    intro h
    simp[List.isPrefixOf]at h;exact hab ⟨h.1.symm,h.2.symm⟩
   rw[e0,bX,if_neg hn,Nat.zero_add,←e1,Lib.index,if_neg e];rcases ih with⟨h1,h2⟩ | ⟨h1,h2⟩
   ·left
    exact⟨h1,by rw[h2];rfl⟩
   ·right
    refine⟨h1,?_⟩
    have e5:cp ((a.toNat:Int)::nn (b::t))=cp (nn (b::t))+1:=by
     rw[e1,cp,if_neg hn]
    rw[h2,e5];have hne:((cp (nn (b::t)):Int)==-1)=false:=by simp <;> omega
    rw[if_neg (by rw[hne];decide)]
    <;> rfl
theorem pS(l:List UInt8):(cc (nn l)=0∧Lib.cut l [58,58]=(l,[],false))∨(cc (nn l)≠0∧nn (Lib.cut l [58,58]).1=(nn l).take (cp (nn l))∧nn (Lib.cut l [58,58]).2.1=(nn l).drop (cp (nn l)+2)∧(Lib.cut l [58,58]).2.2=true):=by
 rcases rE l with⟨h1,h2⟩ | ⟨h1,h2⟩
 ·left
  refine⟨h1,?_⟩;unfold Lib.cut;rw[h2,if_neg (by decide)]
 ·right
  refine⟨h1,?_⟩;unfold Lib.cut;rw[h2,if_pos (by omega),Int.toNat_natCast];unfold nn;exact⟨by rw[List.map_take],by rw[List.map_drop] <;> rfl,rfl⟩
end Go.Proofs.YtkekkbciiohbkaaGreatDoor.X
